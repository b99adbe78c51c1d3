/- The operations of the abstract machine that make or write memory are the program's. Own work; no condition. -/
import Derived.Test.YtkhbihbljdhpbaaSoundQ
import Derived.Deep.OwnRows
import Derived.Laws.CopyRow
import Derived.Great.BuildSlice
namespace Go.Abs
open Go.RowKit (Below)

/-! ### Rows and their values -/

theorem Vals.len_take (v : Vals) (n : Nat) : (v.take n).len = min n v.len := by cases v <;> simp [Vals.take, Vals.len]

theorem getD_take' {α : Type} (l : List α) (d : α) {i n : Nat} (h : i < n) : (l.take n).getD i d = l.getD i d := by
  simp [List.getD_eq_getElem?_getD, h]

theorem Vals.get_take (v : Vals) {i n : Nat} (h : i < n) : (v.take n).get i = v.get i := by
  cases v <;> simp only [Vals.take, Vals.get] <;> rw [getD_take' _ _ h]

theorem Vals.len_sub (v : Vals) (o n : Nat) : (v.sub o n).len = min n (v.len - o) := by cases v <;> simp [Vals.sub, Vals.len]

theorem getD_sub {α : Type} (l : List α) (d : α) {i o n : Nat} (h : i < n) : ((l.drop o).take n).getD i d = l.getD (o + i) d := by
  simp [List.getD_eq_getElem?_getD, h]

theorem Vals.get_sub (v : Vals) {i o n : Nat} (h : i < n) : (v.sub o n).get i = v.get (o + i) := by
  cases v <;> simp only [Vals.sub, Vals.get] <;> rw [getD_sub _ _ h]

theorem getD_set' {α : Type} (l : List α) (d x : α) {i j : Nat} (h : j < l.length) : (l.set j x).getD i d = if i = j then x else l.getD i d := by
  simp only [List.getD_eq_getElem?_getD, List.getElem?_set]
  by_cases e : j = i
  · subst e; simp [h]
  · simp [e, Ne.symm e]

theorem Vals.set_spec {v u : Vals} {j : Nat} {x : AV} (h : v.set j x = some u) (hj : j < v.len) : u.len = v.len ∧ ∀ i, u.get i = if i = j then x else v.get i := by
  cases v <;> cases x <;> simp only [Vals.set] at h <;> first | (cases h; done) | skip
  case ints.int kd l k' n =>
    split at h
    · rename_i e; cases h; subst e
      refine ⟨by simp [Vals.len], fun i => ?_⟩
      simp only [Vals.get]
      rw [getD_set' _ _ _ hj]
      split <;> rfl
    · cases h
  all_goals
    cases h
    refine ⟨by simp [Vals.len], fun i => ?_⟩
    simp only [Vals.get]
    rw [getD_set' _ _ _ hj]
    try (split <;> rfl)

theorem getD_app {α : Type} (l l' : List α) (d : α) (i : Nat) : (l ++ l').getD i d = if i < l.length then l.getD i d else l'.getD (i - l.length) d := by
  simp only [List.getD_eq_getElem?_getD, List.getElem?_append]
  split <;> rfl

theorem Vals.app_spec {v u t : Vals} (h : v.app u = some t) : t.len = v.len + u.len ∧ ∀ i, t.get i = if i < v.len then v.get i else u.get (i - v.len) := by
  cases v <;> cases u <;> simp only [Vals.app] at h <;> first | (cases h; done) | skip
  case ints.ints k l k' l' =>
    split at h
    · rename_i e; cases h; subst e
      refine ⟨by simp [Vals.len], fun i => ?_⟩
      simp only [Vals.get, Vals.len]
      rw [getD_app]
      split <;> rename_i hh <;> simp only [hh, if_true, if_false]
    · cases h
  all_goals
    cases h
    refine ⟨by simp [Vals.len], fun i => ?_⟩
    simp only [Vals.get, Vals.len]
    rw [getD_app]
    split <;> rename_i hh <;> simp only [hh, if_true, if_false]

theorem getD_replicate' {α : Type} (n i : Nat) (x d : α) (h : i < n) : (List.replicate n x).getD i d = x := by
  simp [List.getD_eq_getElem?_getD, h]

theorem Vals.zeros_spec {z : AV} {n : Nat} {v : Vals} (h : Vals.zeros z n = some v) : v.len = n ∧ ∀ i, i < n → v.get i = z := by
  cases z <;> simp only [Vals.zeros] at h <;> first | (cases h; done) | skip
  all_goals
    cases h
    refine ⟨by simp [Vals.len], fun i hi => ?_⟩
    simp only [Vals.get]
    rw [getD_replicate' _ _ _ _ hi]

theorem toInts_spec {k : IntKind} : ∀ {l : List AV} {r : List Int}, Vals.toInts k l = some r → l = r.map (AV.int k)
  | [], r, h => by cases h; rfl
  | .int k' n :: l, r, h => by
    simp only [Vals.toInts] at h
    split at h
    · rename_i e
      obtain ⟨q, hq, rfl⟩ := some_map h
      rw [List.map_cons, ← toInts_spec hq, e]
    · cases h
  | .bool _ :: _, _, h | .str _ :: _, _, h | .sl _ :: _, _, h | .ptr _ _ :: _, _, h | .psl _ _ _ _ :: _, _, h | .nilp :: _, _, h => by cases h

theorem toBools_spec : ∀ {l : List AV} {r : List Bool}, Vals.toBools l = some r → l = r.map AV.bool
  | [], r, h => by cases h; rfl
  | .bool b :: l, r, h => by
    simp only [Vals.toBools] at h
    obtain ⟨q, hq, rfl⟩ := some_map h
    rw [List.map_cons, ← toBools_spec hq]
  | .int _ _ :: _, _, h | .str _ :: _, _, h | .sl _ :: _, _, h | .ptr _ _ :: _, _, h | .psl _ _ _ _ :: _, _, h | .nilp :: _, _, h => by cases h

theorem toSls_spec : ∀ {l : List AV} {r : List SV}, Vals.toSls l = some r → l = r.map AV.sl
  | [], r, h => by cases h; rfl
  | .sl b :: l, r, h => by
    simp only [Vals.toSls] at h
    obtain ⟨q, hq, rfl⟩ := some_map h
    rw [List.map_cons, ← toSls_spec hq]
  | .int _ _ :: _, _, h | .str _ :: _, _, h | .bool _ :: _, _, h | .ptr _ _ :: _, _, h | .psl _ _ _ _ :: _, _, h | .nilp :: _, _, h => by cases h

theorem toStrs_spec : ∀ {l : List AV} {r : List (List UInt8)}, Vals.toStrs l = some r → l = r.map AV.str
  | [], r, h => by cases h; rfl
  | .str b :: l, r, h => by
    simp only [Vals.toStrs] at h
    obtain ⟨q, hq, rfl⟩ := some_map h
    rw [List.map_cons, ← toStrs_spec hq]
  | .int _ _ :: _, _, h | .sl _ :: _, _, h | .bool _ :: _, _, h | .ptr _ _ :: _, _, h | .psl _ _ _ _ :: _, _, h | .nilp :: _, _, h => by cases h

theorem getD_map' {α β : Type} (f : α → β) (l : List α) (d : α) (i : Nat) (h : i < l.length) : (l.map f)[i]? = some (f (l.getD i d)) := by
  simp [List.getD_eq_getElem?_getD, h]

theorem Vals.ofList_spec {z : AV} {l : List AV} {v : Vals} (h : Vals.ofList z l = some v) : v.len = l.length ∧ ∀ i, i < l.length → l[i]? = some (v.get i) := by
  cases z <;> simp only [Vals.ofList] at h <;> first | (cases h; done) | skip
  case int k n =>
    obtain ⟨r, hr, rfl⟩ := some_map h
    obtain rfl := toInts_spec hr
    exact ⟨by simp [Vals.len], fun i hi => getD_map' _ _ _ _ (by simpa using hi)⟩
  case bool b =>
    obtain ⟨r, hr, rfl⟩ := some_map h
    obtain rfl := toBools_spec hr
    exact ⟨by simp [Vals.len], fun i hi => getD_map' _ _ _ _ (by simpa using hi)⟩
  case str s =>
    obtain ⟨r, hr, rfl⟩ := some_map h
    obtain rfl := toStrs_spec hr
    exact ⟨by simp [Vals.len], fun i hi => getD_map' _ _ _ _ (by simpa using hi)⟩
  case sl s =>
    obtain ⟨r, hr, rfl⟩ := some_map h
    obtain rfl := toSls_spec hr
    exact ⟨by simp [Vals.len], fun i hi => getD_map' _ _ _ _ (by simpa using hi)⟩

/-! ### Memory that grows or is written -/

theorem cutFam_get (m : Heap) (f i id : Nat) : (m.cutFam f i)[id]? = (m[id]?).map fun r => if r.own = true ∧ r.fam = f then r.cut i else r := by
  simp [Heap.cutFam]
theorem cutFam_length (m : Heap) (f i : Nat) : (m.cutFam f i).length = m.length := by simp [Heap.cutFam]

theorem RowRel.kept {B n id : Nat} {μ : Mu} {r : Row} {w w' : World} {row : Option Nat} (h : RowRel B μ n id r w) (hg : w.grownBy w' row)
    (hrow : ∀ g, row = some g → B ≤ g) (hne : r.own = true → row ≠ some (μ id).blk) : RowRel B μ n id r w' := by
  refine ⟨h.fam, h.ok, fun ho => ?_, fun ho => ?_⟩
  · obtain ⟨h1, h2, h3, cur, h4, h5, h6⟩ := h.own ho
    have hlt : (μ id).blk < w.heap.size := (Array.getElem?_eq_some_iff.1 h4).1
    exact ⟨h1, h2, h3, cur, by rw [hg.block _ hlt (fun e => hne ho e.symm)]; exact h4, h5, h6⟩
  · obtain ⟨h1, h2⟩ := h.old ho
    refine ⟨h1, fun i hi => ?_⟩
    exact hg.cell (h2 i hi) (fun e => by have := hrow _ e.symm; simp at this; omega)

theorem HRel.kept {B : Nat} {w0 w w' : World} {μ : Mu} {m : Heap} (h : HRel B w0 μ m w) (hg : w.grownBy w' none) : HRel B w0 μ m w' :=
  ⟨h.below.grown hg h.le (by simp), Nat.le_trans h.le hg.size, fun id r hr => (h.rows id r hr).kept hg (by simp) (by simp), h.sep⟩

def upd (μ : Mu) (n : Nat) (L : Loc) : Mu := fun i => if i = n then L else μ i
theorem upd_agree (μ : Mu) (n : Nat) (L : Loc) : Agree n μ (upd μ n L) := fun i hi => by simp [upd, Nat.ne_of_lt hi]
theorem upd_self (μ : Mu) (n : Nat) (L : Loc) : upd μ n L n = L := by simp [upd]

theorem HRel.push {B : Nat} {w0 w : World} {μ : Mu} {m : Heap} (h : HRel B w0 μ m w) (L : Loc) (r : Row) (hr : RowRel B (upd μ m.length L) (m.length + 1) m.length r w)
    (hsep : ∀ j s, m[j]? = some s → s.own = true → r.own = true → s.fam ≠ r.fam → (μ j).blk ≠ L.blk) : HRel B w0 (upd μ m.length L) (m ++ [r]) w := by
  have hl : ∀ id (r : Row), m[id]? = some r → id < m.length := fun id r h => (List.getElem?_eq_some_iff.1 h).1
  have hag := upd_agree μ m.length L
  have hcase : ∀ id s, (m ++ [r])[id]? = some s → (id < m.length ∧ m[id]? = some s) ∨ (id = m.length ∧ s = r) := by
    intro id s hs
    rw [List.getElem?_append] at hs
    split at hs
    · exact .inl ⟨by assumption, hs⟩
    · rename_i hge
      have : id - m.length = 0 := by
        rcases Nat.eq_zero_or_pos (id - m.length) with e | e
        · exact e
        · rw [List.getElem?_eq_none (by simp; omega)] at hs; cases hs
      rw [this] at hs
      exact .inr ⟨by omega, by simpa using hs.symm⟩
  refine ⟨h.below, h.le, fun id s hs => ?_, fun i j s t hi hj hs ht hf => ?_⟩
  · rw [List.length_append, List.length_singleton]
    rcases hcase id s hs with ⟨hlt, hs⟩ | ⟨rfl, rfl⟩
    · exact (h.rows id s hs).agree hag (Nat.le_succ _) hlt
    · exact hr
  · rcases hcase i s hi with ⟨hil, hi1⟩ | ⟨hi1, hi2⟩ <;> rcases hcase j t hj with ⟨hjl, hj1⟩ | ⟨hj1, hj2⟩
    · rw [hag i hil, hag j hjl]; exact h.sep i j s t hi1 hj1 hs ht hf
    · rw [hag i hil, hj1, upd_self]; rw [hj2] at ht hf; exact hsep i s hi1 hs ht hf
    · rw [hag j hjl, hi1, upd_self]; rw [hi2] at hs hf; exact fun e => hsep j t hj1 ht hs (Ne.symm hf) e.symm
    · rw [hi2, hj2] at hf; exact absurd rfl hf

/-- A new block. -/
theorem HRel.fresh {B : Nat} {w0 w : World} {μ : Mu} {m : Heap} (h : HRel B w0 μ m w) (cells : Array Value) (e f : Nat) (vs : Vals) (hf : f ≤ m.length) (hmax : cells.size ≤ maxLen)
    (hc : ∀ i, i < vs.len → cells[i]? = some (conc μ (vs.get i))) (hok : ∀ i, i < vs.len → (vs.get i).ok μ m.length) (w' : World) (hw' : w' = w ∨ w' = w.drew) :
    HRel B w0 (upd μ m.length ⟨w.heap.size, 0, cells.size⟩) (m ++ [⟨e, f, true, vs⟩]) (w'.alloc (.cells cells e)) := by
  have hsz : w'.heap.size = w.heap.size := by rcases hw' with rfl | rfl <;> rfl
  have h' : HRel B w0 μ m w' := by rcases hw' with rfl | rfl <;> first | exact h | exact h.drew
  have h1 : HRel B w0 μ m (w'.alloc (.cells cells e)) := h'.kept (World.grownBy_alloc w' _ none)
  have hag := upd_agree μ m.length ⟨w.heap.size, 0, cells.size⟩
  refine h1.push _ _ ⟨hf, fun i hi => ?_, fun _ => ?_, fun ho => by cases ho⟩ fun j s hs hso _ _ => ?_
  · exact AV.ok_mono (Nat.le_succ _) (conc_agree hag (hok i hi)).2
  · rw [upd_self]
    refine ⟨rfl, h.le, hmax, cells, ?_, rfl, fun i hi => ?_⟩
    · show ((w'.alloc _).heap)[w.heap.size]? = _
      rw [← hsz]; exact heap_alloc_new w' _
    · rw [(conc_agree hag (hok i hi)).1]; exact hc i hi
  · obtain ⟨_, _, _, cur, h4, _⟩ := (h.rows j s hs).own hso
    have hlt : (μ j).blk < w.heap.size := (Array.getElem?_eq_some_iff.1 h4).1
    exact Nat.ne_of_lt hlt

/-- A block that row id lies in is written from cell lo on. -/
theorem HRel.poke {B : Nat} {w0 w w' : World} {μ : Mu} {m : Heap} (h : HRel B w0 μ m w) {id : Nat} {r : Row} (hr : m[id]? = some r) (ho : r.own = true) (lo : Nat) (cur' : Array Value)
    (hg : w.grownBy w' (some (μ id).blk)) (hcur : w'.heap[(μ id).blk]? = some (.cells cur' r.elem (0, 0))) (hsz : cur'.size = (μ id).cap)
    (hsame : ∀ cur, w.heap[(μ id).blk]? = some (.cells cur r.elem (0, 0)) → ∀ j, j < lo → cur'[j]? = cur[j]?) : HRel B w0 μ (m.cutFam r.fam lo) w' := by
  obtain ⟨q1, q2, q3, cur, q4, q5, q6⟩ := (h.rows id r hr).own ho
  have hB : ∀ g, some (μ id).blk = some g → B ≤ g := fun g e => by cases e; exact q2
  refine ⟨h.below.grown hg h.le hB, Nat.le_trans h.le hg.size, fun j s hs => ?_, fun i j s t hi hj hs ht hf => ?_⟩
  · rw [cutFam_length]
    rw [cutFam_get] at hs
    obtain ⟨s0, hs0, rfl⟩ := some_map hs
    have h0 := h.rows j s0 hs0
    by_cases hc : s0.own = true ∧ s0.fam = r.fam
    · rw [if_pos hc]
      refine ⟨h0.fam, fun i hi => ?_, fun _ => ?_, fun hno => by rw [show (s0.cut lo).own = s0.own from rfl, hc.1] at hno; cases hno⟩
      · have hi' : i < min lo s0.vals.len := by rw [← Vals.len_take]; exact hi
        show ((s0.vals.take lo).get i).ok μ m.length
        rw [Vals.get_take _ (by omega)]
        exact h0.ok i (by omega)
      · obtain ⟨p1, p2, p3, c0, p4, p5, p6⟩ := h0.own hc.1
        by_cases hb : (μ j).blk = (μ id).blk
        · rw [hb] at p4 p2 ⊢
          have hinj := Option.some.inj (q4.symm.trans p4)
          injection hinj with e1 e2 e3
          refine ⟨p1, p2, p3, cur', by rw [hcur]; show some (Obj.cells cur' r.elem (0, 0)) = some (Obj.cells cur' s0.elem (0, 0)); rw [e2], ?_, fun i hi => ?_⟩
          · rw [hsz, ← q5, e1, p5]
          · have hi' : i < min lo s0.vals.len := by rw [← Vals.len_take]; exact hi
            show _ = some (conc μ ((s0.vals.take lo).get i))
            rw [Vals.get_take _ (by omega), hsame cur q4 i (by omega), e1]
            exact p6 i (by omega)
        · have hlt : (μ j).blk < w.heap.size := (Array.getElem?_eq_some_iff.1 p4).1
          refine ⟨p1, p2, p3, c0, by rw [hg.block _ hlt (fun e => hb (Option.some.inj e))]; exact p4, p5, fun i hi => ?_⟩
          have hi' : i < min lo s0.vals.len := by rw [← Vals.len_take]; exact hi
          show _ = some (conc μ ((s0.vals.take lo).get i))
          rw [Vals.get_take _ (by omega)]
          exact p6 i (by omega)
    · rw [if_neg hc]
      refine h0.kept hg hB fun hso e => ?_
      have hfam : s0.fam ≠ r.fam := fun e => hc ⟨hso, e⟩
      exact h.sep j id s0 r hs0 hr hso ho hfam (Option.some.inj e).symm
  · rw [cutFam_get] at hi hj
    obtain ⟨s0, hs0, rfl⟩ := some_map hi
    obtain ⟨t0, ht0, rfl⟩ := some_map hj
    have e1 : ∀ (s : Row), (if s.own = true ∧ s.fam = r.fam then s.cut lo else s).own = s.own ∧ (if s.own = true ∧ s.fam = r.fam then s.cut lo else s).fam = s.fam := by
      intro s; split <;> exact ⟨rfl, rfl⟩
    rw [(e1 s0).1] at hs
    rw [(e1 t0).1] at ht
    rw [(e1 s0).2, (e1 t0).2] at hf
    exact h.sep i j s0 t0 hs0 ht0 hs ht hf

/-- A row is known anew. -/
theorem HRel.set {B : Nat} {w0 w : World} {μ : Mu} {m : Heap} (h : HRel B w0 μ m w) {id : Nat} {r s : Row} (hr : m[id]? = some r) (hs : RowRel B μ m.length id s w) (hown : s.own = r.own) (hfam : s.fam = r.fam) :
    HRel B w0 μ (m.set id s) w := by
  have hcase : ∀ j t, (m.set id s)[j]? = some t → (j = id ∧ t = s) ∨ (j ≠ id ∧ m[j]? = some t) := by
    intro j t ht
    rw [List.getElem?_set] at ht
    split at ht
    · rename_i e
      split at ht
      · exact .inl ⟨e.symm, by cases ht; rfl⟩
      · cases ht
    · rename_i e; exact .inr ⟨fun h => e h.symm, ht⟩
  refine ⟨h.below, h.le, fun j t ht => ?_, fun i j t u hi hj ht hu hf => ?_⟩
  · rw [List.length_set]
    rcases hcase j t ht with ⟨rfl, rfl⟩ | ⟨_, ht⟩
    · exact hs
    · exact h.rows j t ht
  · have get : ∀ (j : Nat) (t : Row), (m.set id s)[j]? = some t → ∃ t' : Row, m[j]? = some t' ∧ t'.own = t.own ∧ t'.fam = t.fam := by
      intro j t ht
      rcases hcase j t ht with ⟨rfl, rfl⟩ | ⟨_, ht⟩
      · exact ⟨r, hr, hown.symm, hfam.symm⟩
      · exact ⟨t, ht, rfl, rfl⟩
    obtain ⟨t', h1, h2, h3⟩ := get i t hi
    obtain ⟨u', h4, h5, h6⟩ := get j u hj
    exact h.sep i j t' u' h1 h4 (by rw [h2]; exact ht) (by rw [h5]; exact hu) (by rw [h3, h6]; exact hf)

/-! ### The operations -/

section
variable {P : Program} {B : Nat} {w0 : World} {μ : Mu} {k : Nat} {a : Act} {σ : Frame} {m : Heap} {K : XV → Heap → Prop} {w : World} {Q : Exit → Act → World → Prop}

/-- What an operation leaves. -/
def ERes (B : Nat) (w0 : World) (μ : Mu) (n : Nat) (a : Act) (o : Oper) (K : XV → Heap → Prop) : Act → World → Prop := fun a' w' =>
  ∃ x m' μ', K x m' ∧ a' = a.put o.dst (concX μ' x) ∧ x.ok μ' m'.length ∧ HRel B w0 μ' m' w' ∧ n ≤ m'.length ∧ Agree n μ μ'

theorem e_value {o : Oper} {v : Value} {w' : World} (hr : (execOp a.eval o).run P w = .ok (.value v) w') {x : XV} {m' : Heap} {μ' : Mu} (hK : K x m') (hv : v = concX μ' x) (hx : x.ok μ' m'.length)
    (hh : HRel B w0 μ' m' w') (hl : m.length ≤ m'.length) (hag : Agree m.length μ μ') : o.wp P a w (ERes B w0 μ m.length a o K) Q := by
  unfold Oper.wp
  rw [hr]
  exact ⟨x, m', μ', hK, by rw [hv], hx, hh, hl, hag⟩

theorem e_quiet {o : Oper} (h : QSound P B w0 μ a m (fun x => K x m) o) (hw : HRel B w0 μ m w) : o.wp P a w (ERes B w0 μ m.length a o K) Q := by
  obtain ⟨x, hK, hx⟩ := h
  obtain ⟨h1, h2⟩ := hx w hw
  exact e_value h2 hK rfl h1 hw (Nat.le_refl _) (Agree.refl _ _)

theorem size1_spec {t : TypeId} (h : size1 P t = true) (w : World) : (sizeOf t).run P w = .ok 1 w := by
  unfold size1 at h
  split at h
  · rename_i i hi
    have : i.size = 1 := by simpa using h
    simp [sizeOf, typeInfo, hi, this]
  · cases h

theorem grown_setCell (w : World) (g off : Nat) (v : Value) : w.grownBy (w.setCell ⟨g, off, none⟩ v) (some g) :=
  ⟨rfl, rfl, rfl, by simp [World.setCell], fun j _ hne => Below.heap_setCell w ⟨g, off, none⟩ v j (fun e => hne (by rw [e]))⟩

theorem heap_setCell_self (w : World) (g off : Nat) (v : Value) (cur : Array Value) (e : TypeId) (h : w.heap[g]? = some (.cells cur e (0, 0))) :
    (w.setCell ⟨g, off, none⟩ v).heap[g]? = some (.cells (cur.setIfInBounds off v) e (0, 0)) := by
  simp [World.setCell, Array.getElem?_modify, h]

theorem run_storeAt {t : TypeId} (ht : size1 P t = true) (g off : Nat) (v : AV) (cur : Array Value) (e : TypeId) (hg : w.heap[g]? = some (.cells cur e (0, 0))) (hlt : off < cur.size) :
    (Instr.storeAt t (.pointer (some ⟨g, off, none⟩)) (conc μ v)).run P w = .ok () (w.setCell ⟨g, off, none⟩ (conc μ v)) := by
  have hc : w.cell? ⟨g, off, none⟩ = some cur[off] := by rw [cell_of_row w g off cur e _ hg]; simp [hlt]
  have hfz : w.frozen? ⟨g, off, none⟩ = false := by simp [World.frozen?, hg]
  have hadd : (⟨g, off, none⟩ : Addr).add 0 = ⟨g, off, none⟩ := by simp [Addr.add]
  simp [Instr.storeAt, Instr.sureAddr, storeVar, size1_spec ht, cells_conc, storeCells, hadd, run_store, one_conc, hc, hfz]

theorem e_st {o : Oper} {t : TypeId} {x y : Operand} (ho : o.op = .store t x y) (ht : size1 P t = true) {px py : Opd} (hx : trOpd x = some px) (hy : trOpd y = some py)
    (hw : HRel B w0 μ m w) (hf : FRel μ m.length σ a.tmps k) (h : aop P (.st px py) σ m K) : o.wp P a w (ERes B w0 μ m.length a o K) Q := by
  simp only [aop] at h
  split at h
  · rename_i id off v hp hv
    obtain ⟨h1, _⟩ := ev_spec hf hx hp
    obtain ⟨h2, hok⟩ := ev_spec hf hy hv
    unfold aSt at h
    split at h
    · rename_i r hr
      obtain ⟨⟨hown, hlt⟩, h⟩ := h
      split at h
      · rename_i vs hvs
        obtain ⟨q1, q2, q3, cur, q4, q5, q6⟩ := (hw.rows id r hr).own hown
        have hsz : off < cur.size := by
          have := q6 off hlt
          exact (Array.getElem?_eq_some_iff.1 this).1
        have hrun := run_storeAt (μ := μ) ht (μ id).blk off v cur r.elem q4 hsz
        have hex : (execOp a.eval o).run P w = .ok .skip (w.setCell ⟨(μ id).blk, off, none⟩ (conc μ v)) := by
          have e1 : a.eval x = .pointer (some ⟨(μ id).blk, off, none⟩) := by rw [h1]; simp [concX, conc, q1]
          have e2 : a.eval y = conc μ v := h2
          simp only [execOp, ho, e1, e2, Sem.run_bind, hrun, Result.andThen_ok, Sem.run_pure]
        unfold Oper.wp
        rw [hex]
        have hpoke := hw.poke hr hown off (cur.setIfInBounds off (conc μ v)) (grown_setCell w _ off _) (heap_setCell_self w _ off _ cur _ q4) (by simp [q5])
          (fun c hc j hj => by rw [hc] at q4; cases q4; rw [Array.getElem?_setIfInBounds_ne (by omega)])
        obtain ⟨s1, s2⟩ := Vals.set_spec hvs hlt
        have hget : (m.cutFam r.fam off)[id]? = some (r.cut off) := by rw [cutFam_get, hr]; simp [hown]
        refine ⟨.undef, _, μ, h, rfl, trivial, hpoke.set hget ⟨(hw.rows id r hr).fam, fun i hi => ?_, fun _ => ⟨q1, q2, q3, _, heap_setCell_self w _ off _ cur _ q4, by simp [q5], fun i hi => ?_⟩, fun hno => ?_⟩ rfl rfl, ?_, Agree.refl _ _⟩
        · rw [cutFam_length]
          show (vs.get i).ok μ m.length
          rw [s2 i]
          split
          · exact hok
          · exact (hw.rows id r hr).ok i (by rw [← s1]; exact hi)
        · show (cur.setIfInBounds off (conc μ v))[i]? = some (conc μ (vs.get i))
          rw [s2 i]
          split
          · rename_i e; subst e; rw [Array.getElem?_setIfInBounds_self_of_lt hsz]
          · rename_i e; rw [Array.getElem?_setIfInBounds_ne (fun h => e h.symm)]; exact q6 i (by rw [← s1]; exact hi)
        · rw [hown] at hno; cases hno
        · simp [Heap.setRow, cutFam_length]
      · exact h.elim
    · exact h.elim
  · exact h.elim

theorem ofAgg_spec (l : List AV) : (Vals.ofAgg l).len = l.length ∧ ∀ i, i < l.length → l[i]? = some ((Vals.ofAgg l).get i) := by
  have hmix : ∀ l : List AV, (Vals.mix l).len = l.length ∧ ∀ i, i < l.length → l[i]? = some ((Vals.mix l).get i) := fun l => ⟨rfl, fun i hi => by simp [Vals.get, List.getD_eq_getElem?_getD, hi]⟩
  cases l with
  | nil => exact ⟨rfl, fun i hi => absurd hi (Nat.not_lt_zero _)⟩
  | cons z l =>
    simp only [Vals.ofAgg]
    split
    · rename_i vs h
      exact Vals.ofList_spec h
    · exact hmix _

/-- A variable of many cells is written whole. -/
theorem e_sta {o : Oper} {t : TypeId} {x y : Operand} {n : Nat} (ho : o.op = .store t x y) (ht : aggN P t = some n) {px py : Opd} (hx : trOpd x = some px) (hy : trOpd y = some py)
    (hw : HRel B w0 μ m w) (hf : FRel μ m.length σ a.tmps k) (h : aop P (.sta px py n) σ m K) : o.wp P a w (ERes B w0 μ m.length a o K) Q := by
  simp only [aop] at h
  split at h
  · rename_i id off l hp hv
    obtain ⟨h1, _⟩ := ev_spec hf hx hp
    obtain ⟨h2, hok⟩ := ev_spec hf hy hv
    unfold aStA at h
    split at h
    · rename_i r hr
      obtain ⟨⟨hown, hoff, hnl, hlen⟩, h⟩ := h
      subst hoff
      obtain ⟨q1, q2, q3, cur, q4, q5, q6⟩ := (hw.rows id r hr).own hown
      obtain ⟨o1, o2⟩ := ofAgg_spec l
      have hsz : r.vals.len ≤ cur.size := by
        rcases Nat.eq_zero_or_pos r.vals.len with hz | hz
        · omega
        · have := q6 (r.vals.len - 1) (by omega)
          have := (Array.getElem?_eq_some_iff.1 this).1
          omega
      have hcells : ∀ v ∈ l.map (conc μ), v.oneCell' = true := fun v hv => by
        obtain ⟨u, _, rfl⟩ := List.mem_map.1 hv
        exact one_conc u
      obtain ⟨_, g2, _⟩ := aggN_spec ht w
      have hst := run_storeCells_at P (μ id).blk 0 r.elem (l.map (conc μ)) 0 cur w q4 (by simp; omega) hcells
      generalize hcur' : (cur.toList.take (0 + 0) ++ l.map (conc μ) ++ cur.toList.drop (0 + 0 + (l.map (conc μ)).length)).toArray = cur' at hst
      have hrun : (Instr.storeAt t (.pointer (some ⟨(μ id).blk, 0, none⟩)) (concX μ (.agg l))).run P w = .ok () (w.setRow (μ id).blk cur') := by
        have hv : (concX μ (.agg l)).cells = (l.map (conc μ)).toArray := rfl
        simp only [Instr.storeAt, Instr.sureAddr, storeVar, Sem.run_bind, Sem.run_pure, Result.andThen_ok, g2, hv, List.size_toArray, List.length_map, ← hnl, ne_eq, not_true_eq_false, if_false, hst]
      have hex : (execOp a.eval o).run P w = .ok .skip (w.setRow (μ id).blk cur') := by
        have e1 : a.eval x = .pointer (some ⟨(μ id).blk, 0, none⟩) := by rw [h1]; simp [concX, conc, q1]
        simp only [execOp, ho, e1, h2, Sem.run_bind, hrun, Result.andThen_ok, Sem.run_pure]
      unfold Oper.wp
      rw [hex]
      have hsize' : cur'.size = (μ id).cap := by
        rw [← hcur', ← q5]
        simp
        omega
      have hget' : ∀ i, i < l.length → cur'[i]? = some (conc μ ((Vals.ofAgg l).get i)) := fun i hi => by
        rw [← hcur']
        simp only [List.getElem?_toArray, Nat.zero_add, List.take_zero, List.nil_append]
        rw [List.getElem?_append_left (by simpa using hi), List.getElem?_map, o2 i hi]
        rfl
      have hheap : (w.setRow (μ id).blk cur').heap[(μ id).blk]? = some (.cells cur' r.elem (0, 0)) := setRow_heap w _ cur cur' _ _ q4
      have hpoke := hw.poke hr hown 0 cur' (w' := w.setRow (μ id).blk cur') ⟨rfl, rfl, rfl, by simp, fun j _ hne => setRow_other w _ j _ (fun e => hne (by rw [e]))⟩ hheap hsize' (fun c hc j hj => absurd hj (Nat.not_lt_zero _))
      have hget : (m.cutFam r.fam 0)[id]? = some (r.cut 0) := by rw [cutFam_get, hr]; simp [hown]
      refine ⟨.undef, _, μ, h, rfl, trivial, hpoke.set hget ⟨(hw.rows id r hr).fam, fun i hi => ?_, fun _ => ⟨q1, q2, q3, _, hheap, hsize', fun i hi => ?_⟩, fun hno => ?_⟩ rfl rfl, ?_, Agree.refl _ _⟩
      · rw [cutFam_length]
        have hi' : i < l.length := by rw [← o1]; exact hi
        exact hok _ (List.mem_of_getElem? (o2 i hi'))
      · exact hget' i (by rw [← o1]; exact hi)
      · rw [hown] at hno; cases hno
      · simp [Heap.setRow, cutFam_length]
    · exact h.elim
  · exact h.elim

theorem mix_at (l : List AV) {i : Nat} (h : i < l.length) : l[i]? = some ((Vals.mix l).get i) := by
  simp [Vals.get, List.getD_eq_getElem?_getD, h]

theorem e_box {o : Oper} {e : TypeId} {x : Operand} (ho : o.op = .box e x) {px : Opd} (hx : trOpd x = some px)
    (hw : HRel B w0 μ m w) (hf : FRel μ m.length σ a.tmps k) (h : aop P (.box e px) σ m K) : o.wp P a w (ERes B w0 μ m.length a o K) Q := by
  have key : ∀ (l : List AV) (vs : Vals) (v : Value), a.eval x = v → v.cells = (l.map (conc μ)).toArray → vs.len = l.length → (∀ i, i < l.length → l[i]? = some (vs.get i)) → (∀ u ∈ l, u.ok μ m.length) → l.length ≤ 1024 →
      K (.one (.ptr m.length 0)) (m ++ [⟨e, m.length, true, vs⟩]) → o.wp P a w (ERes B w0 μ m.length a o K) Q := by
    intro l vs v hv hc o1 o2 hok hlen hK
    have hfr := hw.fresh (l.map (conc μ)).toArray e m.length vs (Nat.le_refl _) (by simp [maxLen]; omega)
      (fun i hi => by
        rw [o1] at hi
        have := o2 i hi
        simp [this])
      (fun i hi => by
        rw [o1] at hi
        exact hok _ (List.mem_of_getElem? (o2 i hi))) w (.inl rfl)
    refine e_value (v := .pointer (some ⟨w.heap.size, 0, none⟩)) ?_ hK ?_ (by simp [XV.ok, AV.ok]) hfr (by simp) (upd_agree _ _ _)
    · simp only [execOp, ho, hv, Instr.box, newVar, newRow, hc, Sem.run_map, run_newObj, Result.andThen_ok, bind_pure_comp]
      rfl
    · simp [concX, conc, upd_self]
  simp only [aop] at h
  split at h
  · rename_i v hv
    obtain ⟨h1, hok⟩ := ev_spec hf hx hv
    exact key [v] (.mix [v]) _ h1 (cells_conc v) rfl (fun i hi => mix_at [v] hi) (fun u hu => by rw [List.mem_singleton.1 hu]; exact hok) (by simp) h
  · rename_i l hl
    obtain ⟨h1, hok⟩ := ev_spec hf hx hl
    obtain ⟨o1, o2⟩ := ofAgg_spec l
    exact key l (Vals.ofAgg l) _ h1 rfl o1 o2 hok h.1 h.2
  · exact h.elim

theorem e_alc {o : Oper} {t : TypeId} (ho : o.op = .alloc t) {l : List AV} (hl : trZero P t = some l)
    (hw : HRel B w0 μ m w) (h : aop P (.alc t (Vals.ofAgg l)) σ m K) : o.wp P a w (ERes B w0 μ m.length a o K) Q := by
  obtain ⟨hlen, hK⟩ := h
  obtain ⟨o1, o2⟩ := ofAgg_spec l
  unfold trZero at hl
  split at hl
  · rename_i it hit
    split at hl
    · rename_i zv hzv
      obtain ⟨h1, h2⟩ := trVals_spec (μ := μ) (m := m) hl
      have hc : zv.cells = (l.map (conc μ)).toArray := by rw [← h1]
      have hfr := hw.fresh (l.map (conc μ)).toArray t m.length (Vals.ofAgg l) (Nat.le_refl _) (by simp [maxLen]; omega)
        (fun i hi => by
          rw [o1] at hi
          have := o2 i hi
          simp [this])
        (fun i hi => by
          rw [o1] at hi
          have := o2 i hi
          exact h2 _ (List.mem_of_getElem? this)) w (.inl rfl)
      refine e_value (v := .pointer (some ⟨w.heap.size, 0, none⟩)) ?_ hK ?_ (by simp [XV.ok, AV.ok]) hfr (by simp) (upd_agree _ _ _)
      · have hz : (zeroValue t).run P w = .ok zv w := by simp [zeroValue, typeInfo, hit, hzv]
        simp only [execOp, ho, Instr.alloc, newVar, newRow, Sem.run_bind, Sem.run_map, hz, Result.andThen_ok, hc, run_newObj, bind_pure_comp]
        rfl
      · simp [concX, conc, upd_self]
    · cases hl
  · cases hl

theorem e_bsl {o : Oper} {t e : TypeId} {z : AV} {n : Nat} {parts : Array (Nat × Operand)} (ho : o.op = .buildSlice t n parts) (he : elemZ P t = some (e, z)) (hn : n ≤ 4096) {ps : List (Nat × Opd)}
    (hp : trParts some parts.toList = some ps) (hw : HRel B w0 μ m w) (hf : FRel μ m.length σ a.tmps k) (h : aop P (.bsl e z n ps) σ m K) : o.wp P a w (ERes B w0 μ m.length a o K) Q := by
  obtain ⟨ti, zv, hu, hi, hz, htz, hsz, hby⟩ := elemZ_spec he
  obtain ⟨hzc, hzok⟩ := trVal_spec htz μ m.length
  simp only [aop] at h
  split at h
  · rename_i l hl
    split at h
    · rename_i vs hvs
      obtain ⟨f1, f2, f3⟩ := fill_spec (place := fun i => some (i * ti.size, ti.size)) (pl := some) (fun i j hij => by cases hij; rw [hsz, Nat.mul_one]) hf hp (fun v hv => by
        rw [List.eq_of_mem_replicate hv]; exact hzok) hl
      rw [List.length_replicate] at f3
      obtain ⟨o1, o2⟩ := Vals.ofList_spec hvs
      have hrange : ((Array.range (n * ti.size)).map (zv.cells[· % zv.cells.size]!)) = ((List.replicate n z).map (conc μ)).toArray := by
        rw [hsz, Nat.mul_one, hzc, cells_conc]
        apply Array.ext
        · simp
        · intro i h1 h2
          simp [Nat.mod_one]
      have hex : (execOp a.eval o).run P w = .ok (.value (.slice (some ⟨w.heap.size, 0, none⟩) n n)) (w.alloc (.cells (l.map (conc μ)).toArray e)) := by
        rcases Nat.eq_zero_or_pos n with rfl | hpos
        · have hl0 : l = [] := List.eq_nil_of_length_eq_zero f3
          subst hl0
          have hnil : parts = #[] := by
            obtain ⟨pl⟩ := parts
            cases pl with
            | nil => rfl
            | cons q pl =>
              obtain ⟨i, x⟩ := q
              simp only [trParts, Option.bind_eq_bind] at hp
              obtain ⟨j, hj, hp⟩ := some_bind hp
              obtain ⟨px, hx, hp⟩ := some_bind hp
              obtain ⟨qs, hqs, hp⟩ := some_bind hp
              cases hp
              simp only [fillA, List.replicate_zero, List.length_nil, Nat.not_lt_zero, if_false] at hl
              split at hl <;> cases hl
          subst hnil
          have : (Instr.buildSlice t 0 #[]).run P w = .ok (.slice (some ⟨w.heap.size, 0, none⟩) 0 0) (w.alloc (.cells #[] e)) := by
            simp [Instr.buildSlice, run_under hu, sizeOf, typeInfo, hi, newRow, Instr.fill]
            rw [Array.eq_empty_of_size_eq_zero (show ((Array.range 0).map fun _ => (default : Value)).size = 0 by simp)]
          simp only [execOp, ho, Sem.run_bind, List.map_toArray, List.map_nil, this, Result.andThen_ok, Sem.run_pure]
        · have := run_buildSlice (P := P) w t e n (parts.map fun (i, x) => (i, a.eval x)) (l.map (conc μ)).toArray ti zv hu hi hz (by rw [hsz]; omega) (by rw [hsz]; omega) (by
            rw [hrange, Array.toList_map]; exact f1)
          simp only [execOp, ho, Sem.run_bind, this, Result.andThen_ok, Sem.run_pure]
      have hfr := hw.fresh (l.map (conc μ)).toArray e m.length vs (Nat.le_refl _) (by simp [maxLen, f3]; omega) (fun i hi => by
          have := o2 i (by rw [← o1]; exact hi)
          simp [this])
        (fun i hi => f2 _ (List.mem_of_getElem? (o2 i (by rw [← o1]; exact hi)))) w (.inl rfl)
      refine e_value hex h ?_ ?_ hfr (by simp) (upd_agree _ _ _)
      · simp [concX, conc, SV.conc, upd_self, f3]
      · simp [XV.ok, AV.ok, SV.ok, upd_self, f3]
    · exact h.elim
  · exact h.elim

theorem e_mk {o : Oper} {t e : TypeId} {z : AV} {x y : Operand} (ho : o.op = .makeSlice t x y) (he : elemZ P t = some (e, z)) {px py : Opd} (hx : trOpd x = some px) (hy : trOpd y = some py)
    (hw : HRel B w0 μ m w) (hf : FRel μ m.length σ a.tmps k) (h : aop P (.mk e z px py) σ m K) : o.wp P a w (ERes B w0 μ m.length a o K) Q := by
  obtain ⟨ti, zv, hu, hi, hz, htz, hsz, hby⟩ := elemZ_spec he
  obtain ⟨hzc, hzok⟩ := trVal_spec htz μ m.length
  simp only [aop] at h
  split at h
  · rename_i l c hl hc
    have h1 := (ev_spec hf hx hl).1
    have h2 := (ev_spec hf hy hc).1
    obtain ⟨⟨g1, g2, g3⟩, h⟩ := h
    split at h
    · rename_i vs hvs
      obtain ⟨o1, o2⟩ := Vals.zeros_spec hvs
      have hb : (ti.bytes : Int) * c ≤ 281474976710656 := by
        have e1 : (ti.bytes : Int) ≤ 64 := by omega
        have : (ti.bytes : Int) * c ≤ 64 * c := Int.mul_le_mul_of_nonneg_right e1 (by omega)
        omega
      have hrun := run_make (P := P) w t e ti zv hu hi hz .i64 .i64 l c g1 g2 hb (by omega)
      rw [hsz, Nat.mul_one, hzc, cells_conc] at hrun
      have hsize : (madeCells #[conc μ z] c.toNat).size = c.toNat := size_madeCells _ _
      have hfr := hw.fresh (madeCells #[conc μ z] c.toNat) e m.length vs (Nat.le_refl _) (by rw [hsize]; simp only [maxLen]; omega) (fun i hi => by
          rw [o1] at hi
          rw [o2 i hi]
          simp [madeCells, Nat.mod_one, show i < c.toNat by omega])
        (fun i hi => by rw [o1] at hi; rw [o2 i hi]; exact hzok) w (.inl rfl)
      generalize madeCells #[conc μ z] c.toNat = cells at hrun hfr hsize
      have e1 : a.eval x = .int .i64 l := h1
      have e2 : a.eval y = .int .i64 c := h2
      refine e_value (v := .slice (some ⟨w.heap.size, 0, none⟩) l.toNat c.toNat) ?_ h ?_ ?_ hfr (by simp) (upd_agree _ _ _)
      · simp only [execOp, ho, e1, e2, Sem.run_bind, hrun, Result.andThen_ok, Sem.run_pure]
      · simp [concX, conc, SV.conc, upd_self, hsize]
      · simp only [XV.ok, AV.ok, SV.ok, upd_self, hsize, List.length_append, List.length_singleton]
        omega
    · exact h.elim
  · exact h.elim


theorem sub_cells {w : World} {B n xi : Nat} {rx : Row} (h : RowRel B μ n xi rx w) {o l : Nat} (hle : o + l ≤ rx.vals.len) (news : List Value) (hn : news = (List.range l).map fun j => conc μ (rx.vals.get (o + j))) :
    ∀ j u, news[j]? = some u → w.cell? ((⟨(μ xi).blk, (μ xi).off + o, none⟩ : Addr).add j) = some u := by
  intro j u hu
  subst hn
  have hj : j < l := by have := (List.getElem?_eq_some_iff.1 hu).1; simpa using this
  rw [add_lit, Nat.add_assoc, h.cell (by omega)]
  simpa [hj] using hu

theorem e_app_g {o : Oper} {t e : TypeId} {z : AV} {x y : Operand} (ho : o.op = .call { callee := .builtin .append, args := #[x, y], argTypes := #[t, t] }) (he : elemZ P t = some (e, z))
    {s sx : SV} (hw : HRel B w0 μ m w) (h1 : a.eval x = concX μ (.one (.sl s))) (hok1 : (XV.one (.sl s)).ok μ m.length)
    (h2 : (∃ xi xc, sx.ref = .row xi ∧ a.eval y = .slice (some ⟨(μ xi).blk, (μ xi).off + sx.off, none⟩) sx.len xc) ∨ (a.eval y = concX μ (.one (.sl sx)) ∧ (XV.one (.sl sx)).ok μ m.length))
    (h : aApp e s sx m K) : o.wp P a w (ERes B w0 μ m.length a o K) Q := by
  obtain ⟨ti, zv, hu, hi, hz, htz, hsz, hby⟩ := elemZ_spec he
  obtain ⟨hzc, hzok⟩ := trVal_spec htz μ m.length
  have hzs : zv.cells.size = 1 := by rw [hzc, cells_conc]; rfl
  have hex : ∀ {v w'}, (Builtin.append_ #[t, t] o.type #[a.eval x, a.eval y]).run P w = .ok v w' → (execOp a.eval o).run P w = .ok (.value v) w' := by
    intro v w' hr
    simp only [execOp, ho, resolve, invoke, builtin, Sem.run_bind, Sem.run_pure, Result.andThen_ok, List.map_toArray, List.map_cons, List.map_nil, hr]
  obtain ⟨sr, so, sl⟩ := s
  obtain ⟨xr, xo, xl⟩ := sx
  unfold aApp at h
  have empty : ∀ (fa : Option Addr), a.eval y = .slice fa 0 0 → (match sr with
      | .row si => match m[si]? with
        | some rs => (rs.own = true ∧ so = 0 ∧ sl ≤ rs.vals.len) ∧ K (.one (.sl ⟨sr, so, sl⟩)) m
        | none => False
      | _ => K (.one (.sl ⟨sr, so, sl⟩)) m) → o.wp P a w (ERes B w0 μ m.length a o K) Q := by
    intro fa e2 h
    have hfc : (Builtin.firstCells ti.size 0 (.slice fa 0 0)).run P w = .ok #[] w := by
      cases fa <;> simp [Builtin.firstCells, loadCells, loadCellsFrom]
    cases sr with
    | nil =>
      simp only at h
      have hs0 : (⟨.nil, so, sl⟩ : SV) = SV.nil := hok1
      cases hs0
      have e1 : a.eval x = .slice none 0 0 := h1
      refine e_value (hex (v := .slice none 0 0) (w' := w) ?_) h rfl rfl hw (Nat.le_refl _) (Agree.refl _ _)
      rw [e1, e2]
      simp [Builtin.append_, run_under hu, sizeOf, typeInfo, hi, Builtin.lenOf, hfc]
    | far sa =>
      simp only at h
      have hs0 : (⟨.far sa, so, sl⟩ : SV) = ⟨.far sa, 0, 0⟩ := hok1
      cases hs0
      have e1 : a.eval x = .slice (some sa) 0 0 := h1
      refine e_value (hex (v := .slice (some sa) 0 0) (w' := w) ?_) h rfl rfl hw (Nat.le_refl _) (Agree.refl _ _)
      rw [e1, e2]
      simp [Builtin.append_, run_under hu, sizeOf, typeInfo, hi, Builtin.lenOf, hfc, storeCells]
    | row si =>
      simp only at h
      split at h
      · rename_i rs hrs
        obtain ⟨⟨g1, g2, g3⟩, h⟩ := h
        subst g2
        have e1 : a.eval x = .slice (some ⟨(μ si).blk, (μ si).off + 0, none⟩) sl ((μ si).cap - 0) := h1
        have hcap : sl ≤ (μ si).cap := by have := hok1.2; simp at this; omega
        refine e_value (hex (v := a.eval x) (w' := w) ?_) h h1 hok1 hw (Nat.le_refl _) (Agree.refl _ _)
        rw [e1, e2]
        simp [Builtin.append_, run_under hu, sizeOf, typeInfo, hi, Builtin.lenOf, hfc, hcap, storeCells]
      · exact h.elim
  cases xr with
  | nil =>
    obtain ⟨h2, hok2⟩ : a.eval y = concX μ (.one (.sl ⟨.nil, xo, xl⟩)) ∧ (XV.one (.sl ⟨.nil, xo, xl⟩)).ok μ m.length := by
      rcases h2 with ⟨xi, xc, e, _⟩ | h2
      · cases e
      · exact h2
    have hx0 : (⟨.nil, xo, xl⟩ : SV) = SV.nil := hok2
    cases hx0
    exact empty none h2 (by cases sr <;> exact h)
  | far xa =>
    obtain ⟨h2, hok2⟩ : a.eval y = concX μ (.one (.sl ⟨.far xa, xo, xl⟩)) ∧ (XV.one (.sl ⟨.far xa, xo, xl⟩)).ok μ m.length := by
      rcases h2 with ⟨xi, xc, e, _⟩ | h2
      · cases e
      · exact h2
    have hx0 : (⟨.far xa, xo, xl⟩ : SV) = ⟨.far xa, 0, 0⟩ := hok2
    cases hx0
    exact empty (some xa) h2 (by cases sr <;> exact h)
  | row xi =>
    simp only at h
    obtain ⟨xc, e2⟩ : ∃ xc, a.eval y = .slice (some ⟨(μ xi).blk, (μ xi).off + xo, none⟩) xl xc := by
      rcases h2 with ⟨xi', xc, e, h2⟩ | h2
      · cases e; exact ⟨xc, h2⟩
      · exact ⟨_, h2.1⟩
    split at h
    · exact h.elim
    · rename_i rx hrx
      obtain ⟨⟨g1, g2⟩, h⟩ := h
      have hrowx := hw.rows xi rx hrx
      generalize hnews : ((List.range xl).map fun j => conc μ (rx.vals.get (xo + j))) = news
      have hcells := sub_cells hrowx g1 news hnews.symm
      have hnl : news.length = xl * ti.size := by rw [← hnews, hsz]; simp
      have hnl1 : news.length = xl := by rw [hnl, hsz, Nat.mul_one]
      have hone : ∀ u ∈ news, u.oneCell' = true := by
        intro u hu
        rw [← hnews] at hu
        obtain ⟨j, _, rfl⟩ := List.mem_map.1 hu
        exact one_conc _
      have hnget : ∀ j, j < xl → news[j]? = some (conc μ (rx.vals.get (xo + j))) := by
        intro j hj
        rw [← hnews]
        simp [hj]
      have hxok : ∀ j, j < xl → (rx.vals.get (xo + j)).ok μ m.length := fun j hj => hrowx.ok _ (by omega)
      cases sr with
      | nil =>
        simp only at h
        have hs0 : (⟨.nil, so, sl⟩ : SV) = SV.nil := hok1
        cases hs0
        have e1 : a.eval x = .slice none 0 0 := h1
        rcases Nat.eq_zero_or_pos xl with hz0 | hpos
        · subst hz0
          have h := h.1 rfl
          refine e_value (hex (v := .slice none 0 0) (w' := w) ?_) h rfl rfl hw (Nat.le_refl _) (Agree.refl _ _)
          rw [e1, e2]
          simp [Builtin.append_, run_under hu, sizeOf, typeInfo, hi, Builtin.lenOf, Builtin.firstCells, loadCells, loadCellsFrom]
        · have h := h.2 hpos
          have hr := run_append_nil (P := P) w t o.type e ti zv hu hi hz ⟨(μ xi).blk, (μ xi).off + xo, none⟩ xl xc news hnl hcells hpos (by simp at g2; omega)
            (by have : xl * ti.bytes ≤ xl * 64 := Nat.mul_le_mul_left _ hby
                simp at g2; omega)
          have hge := grownCap_ge w xl 0 e
          have hcm : grownCap w xl 0 e ≤ maxLen := grownCap_le_maxLen w xl 0 e (by simp only [maxLen]; simp at g2; omega)
          have hsize : (news.toArray ++ Builtin.zeroCells zv.cells (grownCap w xl 0 e - xl)).size = grownCap w xl 0 e := by
            simp only [Array.size_append, List.size_toArray, size_zeroCells, hzs, hnl1]; omega
          have hvl : (rx.vals.sub xo xl).len = xl := by rw [Vals.len_sub]; omega
          have hfr := hw.fresh (news.toArray ++ Builtin.zeroCells zv.cells (grownCap w xl 0 e - xl)) e m.length (rx.vals.sub xo xl) (Nat.le_refl _) (by rw [hsize]; exact hcm) (fun i hi => by
              rw [hvl] at hi
              rw [Array.getElem?_append_left (by simp [hnl1, hi]), Vals.get_sub _ hi]
              simpa using hnget i hi)
            (fun i hi => by rw [hvl] at hi; rw [Vals.get_sub _ hi]; exact hxok i hi) w.drew (.inr rfl)
          rw [hsize] at hfr
          rw [← e1, ← e2] at hr
          refine e_value (hex hr) h ?_ ?_ hfr (by simp) (upd_agree _ _ _)
          · simp [concX, conc, SV.conc, upd_self]
          · simp [XV.ok, AV.ok, SV.ok, upd_self, hge]
      | far sa =>
        simp only at h
        have hs0 : (⟨.far sa, so, sl⟩ : SV) = ⟨.far sa, 0, 0⟩ := hok1
        cases hs0
        have e1 : a.eval x = .slice (some sa) 0 0 := h1
        rcases Nat.eq_zero_or_pos xl with hz0 | hpos
        · subst hz0
          have h := h.1 rfl
          refine e_value (hex (v := .slice (some sa) 0 0) (w' := w) ?_) h rfl rfl hw (Nat.le_refl _) (Agree.refl _ _)
          rw [e1, e2]
          simp [Builtin.append_, run_under hu, sizeOf, typeInfo, hi, Builtin.lenOf, Builtin.firstCells, loadCells, loadCellsFrom, storeCells]
        · have h := h.2 hpos
          have hr := run_append_grow (P := P) w t o.type e ti zv hu hi hz sa 0 0 [] (by simp) (fun j u hu => by simp at hu) ⟨(μ xi).blk, (μ xi).off + xo, none⟩ xl xc news hnl hcells (by omega) (by simp at g2; omega)
            (growslice_fits (by omega) (by
              have : xl * ti.bytes ≤ xl * 64 := Nat.mul_le_mul_left _ hby
              simp only [Nat.zero_add]
              simp at g2; omega))
          simp only [Nat.zero_add, Array.empty_append] at hr
          have hge := grownCap_ge w xl 0 e
          have hcm : grownCap w xl 0 e ≤ maxLen := grownCap_le_maxLen w xl 0 e (by simp only [maxLen]; simp at g2; omega)
          have hsize : (news.toArray ++ Builtin.zeroCells zv.cells (grownCap w xl 0 e - xl)).size = grownCap w xl 0 e := by
            simp only [Array.size_append, List.size_toArray, size_zeroCells, hzs, hnl1]; omega
          have hvl : (rx.vals.sub xo xl).len = xl := by rw [Vals.len_sub]; omega
          have hfr := hw.fresh (news.toArray ++ Builtin.zeroCells zv.cells (grownCap w xl 0 e - xl)) e m.length (rx.vals.sub xo xl) (Nat.le_refl _) (by rw [hsize]; exact hcm) (fun i hi => by
              rw [hvl] at hi
              rw [Array.getElem?_append_left (by simp [hnl1, hi]), Vals.get_sub _ hi]
              simpa using hnget i hi)
            (fun i hi => by rw [hvl] at hi; rw [Vals.get_sub _ hi]; exact hxok i hi) w.drew (.inr rfl)
          rw [hsize] at hfr
          rw [← e1, ← e2] at hr
          refine e_value (hex hr) h ?_ ?_ hfr (by simp) (upd_agree _ _ _)
          · simp [concX, conc, SV.conc, upd_self]
          · simp [XV.ok, AV.ok, SV.ok, upd_self, hge]
      | row si =>
        simp only at h
        split at h
        · exact h.elim
        · rename_i rs hrs
          obtain ⟨⟨k1, k2, k3, k4⟩, hK2⟩ := h
          subst k2
          split at hK2
          · rename_i vs hvs
            have e1 : a.eval x = .slice (some ⟨(μ si).blk, 0, none⟩) sl (μ si).cap := by
              rw [h1]
              have := ((hw.rows si rs hrs).own k1).1
              simp [concX, conc, SV.conc, this]
            obtain ⟨q1, q2, q3, cur, q4, q5, q6⟩ := (hw.rows si rs hrs).own k1
            obtain ⟨v1, v2⟩ := Vals.app_spec hvs
            rw [Vals.len_take, Vals.len_sub, Nat.min_eq_left k3, Nat.min_eq_left (by omega)] at v1
            rw [Vals.len_take, Nat.min_eq_left k3] at v2
            have hfamle := (hw.rows si rs hrs).fam
            have hsil : si < m.length := (List.getElem?_eq_some_iff.1 hrs).1
            have hvok : ∀ i, i < vs.len → (vs.get i).ok μ m.length := by
              intro i hi
              rw [v1] at hi
              rw [v2 i]
              split
              · rename_i hlt; rw [Vals.get_take _ hlt]; exact (hw.rows si rs hrs).ok i (by omega)
              · rename_i hge; rw [Vals.get_sub _ (by omega)]; exact hxok _ (by omega)
            have hcap : sl ≤ (μ si).cap := by have := hok1.2; simp at this; omega
            have hpoke0 : HRel B w0 μ (m.cutFam rs.fam sl) w := hw.poke hrs k1 sl cur ⟨rfl, rfl, rfl, Nat.le_refl _, fun _ _ _ => rfl⟩ q4 q5 (fun c hc j hj => by rw [hc] at q4; cases q4; rfl)
            by_cases hroom : sl + xl ≤ (μ si).cap
            · have hfit : sl * ti.size + news.length ≤ cur.size := by rw [hsz, hnl1, q5]; omega
              have hr := run_append_room (P := P) w t o.type e ti hu hi (μ si).blk sl (μ si).cap cur (by rw [← k4]; exact q4) ⟨(μ xi).blk, (μ xi).off + xo, none⟩ xl xc news hnl hcells hone hroom hfit
              rw [hsz, Nat.mul_one, hnl1] at hr
              generalize hcur' : (cur.toList.take sl ++ news ++ cur.toList.drop (sl + xl)).toArray = cur' at hr
              have hget' : ∀ i, i < sl → cur'[i]? = cur[i]? := by
                intro i hi
                rw [← hcur']
                simp only [List.getElem?_toArray]
                rw [List.append_assoc, List.getElem?_append_left (by simp; omega), List.getElem?_take]
                simp [hi]
              have hget2 : ∀ i, sl ≤ i → i < sl + xl → cur'[i]? = news[i - sl]? := by
                intro i hi1 hi2
                rw [← hcur']
                simp only [List.getElem?_toArray]
                rw [List.append_assoc, List.getElem?_append_right (by simp; omega), List.getElem?_append_left (by simp; omega)]
                congr 1
                simp
                omega
              have hsize' : cur'.size = (μ si).cap := by
                rw [← hcur']
                simp [hnl1, q5]
                omega
              have hheap : (w.setRow (μ si).blk cur').heap[(μ si).blk]? = some (.cells cur' rs.elem (0, 0)) := setRow_heap w _ cur cur' _ _ q4
              have hpoke := hw.poke hrs k1 sl cur' (w' := w.setRow (μ si).blk cur') ⟨rfl, rfl, rfl, by simp, fun j _ hne => setRow_other w _ j _ (fun e => hne (by rw [e]))⟩ hheap hsize'
                (fun c hc j hj => by rw [hc] at q4; cases q4; exact hget' j hj)
              have hpush := hpoke.push (μ si) ⟨e, rs.fam, true, vs⟩ ⟨by rw [cutFam_length]; exact Nat.le_trans hfamle (Nat.le_of_lt hsil), fun i hi => ?_, fun _ => ?_, fun hno => by cases hno⟩ (fun j s hs hso _ hne => by
                  rw [cutFam_get] at hs
                  obtain ⟨s0, hs0, rfl⟩ := some_map hs
                  have e1 : (if s0.own = true ∧ s0.fam = rs.fam then s0.cut sl else s0).own = s0.own ∧ (if s0.own = true ∧ s0.fam = rs.fam then s0.cut sl else s0).fam = s0.fam := by split <;> exact ⟨rfl, rfl⟩
                  rw [e1.1] at hso
                  rw [e1.2] at hne
                  exact hw.sep j si s0 rs hs0 hrs hso k1 hne)
              rw [cutFam_length] at hpush
              rw [← e1, ← e2] at hr
              refine e_value (hex hr) hK2 ?_ ?_ hpush (by simp [cutFam_length]) (upd_agree _ _ _)
              · simp [concX, conc, SV.conc, upd_self, q1]
              · simp only [XV.ok, AV.ok, SV.ok, upd_self, List.length_append, List.length_singleton, cutFam_length]; omega
              · rw [cutFam_length]
                exact AV.ok_mono (Nat.le_succ _) (conc_agree (upd_agree _ _ _) (hvok i hi)).2
              · rw [cutFam_length, upd_self]
                refine ⟨q1, q2, q3, cur', by rw [hheap]; show some (Obj.cells cur' rs.elem (0, 0)) = some (Obj.cells cur' e (0, 0)); rw [k4], hsize', fun i hi => ?_⟩
                rw [(conc_agree (upd_agree μ m.length (μ si)) (hvok i hi)).1]
                have hi' := hi
                simp only at hi'
                rw [v1] at hi'
                show _ = some (conc μ (vs.get i))
                rw [v2 i]
                split
                · rename_i hlt; rw [hget' i hlt, Vals.get_take _ hlt]; exact q6 i (by omega)
                · rename_i hge; rw [hget2 i (by omega) hi', Vals.get_sub _ (by omega)]; exact hnget _ (by omega)
            · generalize holds : ((List.range sl).map fun j => conc μ (rs.vals.get j)) = olds
              have hol : olds.length = sl * ti.size := by rw [← holds, hsz]; simp
              have hol1 : olds.length = sl := by rw [hol, hsz, Nat.mul_one]
              have hoget : ∀ j, j < sl → olds[j]? = some (conc μ (rs.vals.get j)) := by
                intro j hj
                rw [← holds]
                simp [hj]
              have hocells : ∀ j u, olds[j]? = some u → w.cell? ((⟨(μ si).blk, 0, none⟩ : Addr).add j) = some u := by
                intro j u hu
                have hj : j < sl := by have := (List.getElem?_eq_some_iff.1 hu).1; omega
                rw [hoget j hj] at hu
                rw [add_lit, Nat.zero_add, cell_of_row w _ j cur _ _ q4, q6 j (by omega)]
                exact hu
              have hb2 : (sl + xl) * ti.bytes ≤ 140737488355328 := by
                have : (sl + xl) * ti.bytes ≤ (sl + xl) * 64 := Nat.mul_le_mul_left _ hby
                omega
              have hr := run_append_grow (P := P) w t o.type e ti zv hu hi hz ⟨(μ si).blk, 0, none⟩ sl (μ si).cap olds hol hocells ⟨(μ xi).blk, (μ xi).off + xo, none⟩ xl xc news hnl hcells (by omega) (by omega)
                (growslice_fits (by omega) hb2)
              have hge := grownCap_ge w (sl + xl) (μ si).cap e
              have hcm : grownCap w (sl + xl) (μ si).cap e ≤ maxLen := grownCap_le_maxLen w (sl + xl) (μ si).cap e (by simp only [maxLen]; omega)
              have hsize : (olds.toArray ++ news.toArray ++ Builtin.zeroCells zv.cells (grownCap w (sl + xl) (μ si).cap e - (sl + xl))).size = grownCap w (sl + xl) (μ si).cap e := by
                simp only [Array.size_append, List.size_toArray, size_zeroCells, hzs, hnl1, hol1]; omega
              have hfr := hpoke0.fresh (olds.toArray ++ news.toArray ++ Builtin.zeroCells zv.cells (grownCap w (sl + xl) (μ si).cap e - (sl + xl))) e rs.fam vs (by rw [cutFam_length]; omega) (by rw [hsize]; exact hcm) (fun i hi => by
                  rw [v1] at hi
                  rw [v2 i, Array.getElem?_append_left (by simp [hnl1, hol1, hi])]
                  split
                  · rename_i hlt
                    rw [Array.getElem?_append_left (by simp [hol1, hlt]), Vals.get_take _ hlt]
                    simpa using hoget i hlt
                  · rename_i hge
                    rw [Array.getElem?_append_right (by simp [hol1]; omega), Vals.get_sub _ (by omega)]
                    simpa [hol1] using hnget (i - sl) (by omega))
                (fun i hi => by rw [cutFam_length]; exact hvok i hi) w.drew (.inr rfl)
              rw [hsize, cutFam_length] at hfr
              rw [← e1, ← e2] at hr
              refine e_value (hex hr) hK2 ?_ ?_ hfr (by simp [cutFam_length]) (upd_agree _ _ _)
              · simp [concX, conc, SV.conc, upd_self]
              · simp only [XV.ok, AV.ok, SV.ok, upd_self, List.length_append, List.length_singleton, cutFam_length]; omega
          · exact hK2.elim

theorem e_app {o : Oper} {t e : TypeId} {z : AV} {x y : Operand} (ho : o.op = .call { callee := .builtin .append, args := #[x, y], argTypes := #[t, t] }) (he : elemZ P t = some (e, z))
    {px py : Opd} (hx : trOpd x = some px) (hy : trOpd y = some py)
    (hw : HRel B w0 μ m w) (hf : FRel μ m.length σ a.tmps k) (h : aop P (.app e px py) σ m K) : o.wp P a w (ERes B w0 μ m.length a o K) Q := by
  simp only [aop] at h
  split at h
  · rename_i s sx hs hsx
    obtain ⟨h1, hok1⟩ := ev_spec hf hx hs
    exact e_app_g ho he hw h1 hok1 (.inr (ev_spec hf hy hsx)) h
  · rename_i s xi xo xl xc hs hsx
    obtain ⟨h1, hok1⟩ := ev_spec hf hx hs
    obtain ⟨h2, _⟩ := ev_spec hf hy hsx
    exact e_app_g (sx := ⟨.row xi, xo, xl⟩) ho he hw h1 hok1 (.inl ⟨xi, xc, rfl, h2⟩) h
  · exact h.elim

end
end Go.Abs
