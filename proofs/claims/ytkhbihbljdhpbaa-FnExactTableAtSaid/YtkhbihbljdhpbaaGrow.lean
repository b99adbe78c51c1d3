/- From a contract over rows to the given statement's own words: laws of any number of slices of numbers and of numbers. Own work; no condition. -/
import Derived.Test.YtkhbihbljdhpbaaUse
import Derived.Deep.Strs
import Derived.Carry
import Derived.OpenShut
import Derived.ProofKit
import Derived.ChangeSlices
import Derived.ChangeSame
import Derived.JoinedOf
import Derived.JoinedAt
import Derived.Test.YtkhbihbljdhpbaaLaws0
import Derived.Test.YtkhbihbljdhpbaaWire2
namespace Go.Abs
open Go.ChangeShapes Go.WideShapes Go.ChangeAt Go.RowKit

def IsStrs (m : Heap) (s : SV) (l : List (List UInt8)) : Prop := s.len = l.length ∧ ∀ i, i < l.length → m.at (s.ref.id) (s.off + i) = some (.str (l.getD i []))
theorem at_pre {m m' : Heap} {id i : Nat} {v : AV} (h : m.at id i = some v) (hp : m <+: m') : m'.at id i = some v := by
  unfold Heap.at at h ⊢
  cases hr : m[id]? with
  | none => rw [hr] at h; cases h
  | some r =>
    rw [hr] at h
    rw [(show m'[id]? = some r by obtain ⟨t, rfl⟩ := hp; rw [List.getElem?_append_left (get_lt hr)]; exact hr)]
    exact h
theorem IsStrs.pre {m m' : Heap} {s : SV} {l : List (List UInt8)} (h : IsStrs m s l) (hp : m <+: m') : IsStrs m' s l := ⟨h.1, fun i hi => at_pre (h.2 i hi) hp⟩
theorem isStrs_nil (m : Heap) : IsStrs m SV.nil [] := ⟨rfl, fun i hi => by simp at hi⟩

/-- What a parameter may be. -/
inductive Kd where
  | ints (k : IntKind)
  | int
  | str
  | strs

def Kd.Is (P : Program) (t : TypeId) : Kd → Prop
  | .ints k => ∃ e, P.underlying t = some (.slice e) ∧ P.underlying e = some (.int k) ∧ P.cellsOf e = 1
  | .int => P.underlying t = some (.int .i64)
  | .str => P.underlying t = some .string
  | .strs => ∃ e, P.underlying t = some (.slice e) ∧ P.underlying e = some .string ∧ P.cellsOf e = 1
def Kds (P : Program) : List TypeId → List Kd → Prop
  | [], [] => True
  | t :: ts, k :: ks => k.Is P t ∧ Kds P ts ks
  | _, _ => False

/-- An argument, as rows tell it. -/
def ArgIs (m : Heap) : Kd → XV → Prop
  | .ints k, x => ∃ sv l, x = .one (.sl sv) ∧ IsInts k m sv l ∧ (∀ z ∈ l, (Lit.int k z).wf = true) ∧ l.length ≤ maxLen
  | .int, x => ∃ n, x = .one (.int .i64 n) ∧ (Lit.int .i64 n).wf = true
  | .str, x => ∃ l, x = .one (.str l) ∧ l.length ≤ maxLen
  | .strs, x => ∃ sv l, x = .one (.sl sv) ∧ IsStrs m sv l ∧ (∀ u ∈ l, u.length ≤ maxLen) ∧ l.length ≤ maxLen
def ArgsAre (m : Heap) : List Kd → List XV → Prop
  | [], [] => True
  | k :: ks, x :: xs => ArgIs m k x ∧ ArgsAre m ks xs
  | _, _ => False

theorem ArgIs.pre {m m' : Heap} {k : Kd} {x : XV} (h : ArgIs m k x) (hp : m <+: m') : ArgIs m' k x := by
  cases k with
  | ints k =>
    obtain ⟨sv, l, h1, h2, h3⟩ := h
    exact ⟨sv, l, h1, h2.pre hp, h3⟩
  | int => exact h
  | str => exact h
  | strs =>
    obtain ⟨sv, l, h1, h2, h3⟩ := h
    exact ⟨sv, l, h1, h2.pre hp, h3⟩

theorem wf_range {n : Int} (h : (Lit.int .i64 n).wf = true) : -9223372036854775808 ≤ n ∧ n ≤ 9223372036854775807 := by
  have h2 := Bool.and_eq_true_iff.1 h
  exact ⟨of_decide_eq_true h2.1, of_decide_eq_true h2.2⟩

def AllOld (m : Heap) : Prop := ∀ (id : Nat) (r : Row), m[id]? = some r → r.own = false

section
variable {H : Type} {enc : TypeId × Value → H} {P : Program}

theorem start_empty (W : World) (μ : Mu) : HRel W.heap.size W μ [] W :=
  ⟨Below.refl _ _, Nat.le_refl _, fun id r h => by simp at h, fun i j r s h => by simp at h⟩

/-- One more row that was there. -/
theorem push_old {W : World} {μ : Mu} {m : Heap} (hh : HRel W.heap.size W μ m W) (hold : AllOld m) (k : IntKind) (b o cap : Nat) (l : List Int) (hb : b < W.heap.size) (hc : ∀ i, i < l.length → W.cell? ⟨b, o + i, none⟩ = some (.int k (l.getD i 0))) :
    ∃ μ' : Mu, Agree m.length μ μ' ∧ μ' m.length = ⟨b, o, cap⟩ ∧ HRel W.heap.size W μ' (m ++ [⟨0, m.length, false, .ints k l⟩]) W ∧ AllOld (m ++ [⟨0, m.length, false, .ints k l⟩]) := by
  have hag : Agree m.length μ (fun i => if i = m.length then ⟨b, o, cap⟩ else μ i) := fun i hi => by simp only; rw [if_neg (by omega)]
  have hall : AllOld (m ++ [⟨0, m.length, false, .ints k l⟩]) := by
    intro id r hr
    rcases get_push hr with ⟨_, h2⟩ | ⟨_, rfl⟩
    · exact hold id r h2
    · rfl
  refine ⟨_, hag, if_pos rfl, ⟨Below.refl _ _, Nat.le_refl _, fun id r hr => ?_, fun i j r s hi hj hr => ?_⟩, hall⟩
  · rcases get_push hr with ⟨h1, h2⟩ | ⟨rfl, rfl⟩
    · exact (hh.rows id r h2).agree hag (by simp) h1
    · refine ⟨Nat.le_refl _, fun i hi => trivial, (fun ho => by cases ho), fun _ => ?_⟩
      simp only [if_true]
      exact ⟨hb, fun i hi => hc i hi⟩
  · rw [hall i r hi] at hr
    cases hr

theorem push_old_s {W : World} {μ : Mu} {m : Heap} (hh : HRel W.heap.size W μ m W) (hold : AllOld m) (b o cap : Nat) (l : List (List UInt8)) (hb : b < W.heap.size) (hc : ∀ i, i < l.length → W.cell? ⟨b, o + i, none⟩ = some (.string ⟨(l.getD i []).toArray⟩)) :
    ∃ μ' : Mu, Agree m.length μ μ' ∧ μ' m.length = ⟨b, o, cap⟩ ∧ HRel W.heap.size W μ' (m ++ [⟨0, m.length, false, .strs l⟩]) W ∧ AllOld (m ++ [⟨0, m.length, false, .strs l⟩]) := by
  have hag : Agree m.length μ (fun i => if i = m.length then ⟨b, o, cap⟩ else μ i) := fun i hi => by simp only; rw [if_neg (by omega)]
  have hall : AllOld (m ++ [⟨0, m.length, false, .strs l⟩]) := by
    intro id r hr
    rcases get_push hr with ⟨_, h2⟩ | ⟨_, rfl⟩
    · exact hold id r h2
    · rfl
  refine ⟨_, hag, if_pos rfl, ⟨Below.refl _ _, Nat.le_refl _, fun id r hr => ?_, fun i j r s hi hj hr => ?_⟩, hall⟩
  · rcases get_push hr with ⟨h1, h2⟩ | ⟨rfl, rfl⟩
    · exact (hh.rows id r h2).agree hag (by simp) h1
    · refine ⟨Nat.le_refl _, fun i hi => trivial, (fun ho => by cases ho), fun _ => ?_⟩
      simp only [if_true]
      exact ⟨hb, fun i hi => hc i hi⟩
  · rw [hall i r hi] at hr
    cases hr

theorem open_one {W : World} {m : Heap} {μ : Mu} (hh : HRel W.heap.size W μ m W) (hold : AllOld m) {t : TypeId} {kd : Kd} {v : Value} {d : DataW H} {ps : List MemPlace} {b0 : Nat} (hk : kd.Is P t) (hval : Value.okWide P W .any b0 t v)
    (hd : DataW.Trod enc P W 0 (fun _ => true) true t v d ps) :
    ∃ x m' μ', m <+: m' ∧ Agree m.length μ μ' ∧ HRel W.heap.size W μ' m' W ∧ AllOld m' ∧ x.ok μ' m'.length ∧ concX μ' x = v ∧ ArgIs m' kd x := by
  cases kd with
  | int =>
    obtain ⟨n, rfl, _, _, hw⟩ := open_int hk hval hd
    exact ⟨.one (.int .i64 n), m, μ, List.prefix_rfl, Agree.refl _ _, hh, hold, trivial, rfl, n, rfl, hw⟩
  | str =>
    obtain ⟨st, rfl⟩ := okWide_string hk hval
    obtain ⟨fuel, hf⟩ := hd
    obtain ⟨st', h, _, hw⟩ := DataW.trod_string hk hf
    simp [Value.cells] at h
    subst h
    refine ⟨.one (.str st.data.toList), m, μ, List.prefix_rfl, Agree.refl _ _, hh, hold, trivial, ?_, st.data.toList, rfl, by rw [Array.length_toList]; exact hw⟩
    simp only [concX, conc]
  | strs =>
    obtain ⟨e, ht, he, hc⟩ := hk
    obtain ⟨a0, len, cap, rfl⟩ := okWide_slice ht hval
    obtain ⟨fuel, hf⟩ := hd
    rcases Go.Deep.open_strs ht he hc hf with ⟨hcs, hx⟩ | ⟨a, len', cap', n, S, hcs, _, hl, hm, hn, hx, hcell⟩
    · simp [Value.cells] at hcs
      obtain ⟨rfl, rfl, rfl⟩ := hcs
      exact ⟨.one (.sl SV.nil), m, μ, List.prefix_rfl, Agree.refl _ _, hh, hold, rfl, rfl, SV.nil, [], rfl, isStrs_nil _, by simp, Nat.zero_le _⟩
    · simp [Value.cells] at hcs
      obtain ⟨rfl, rfl, rfl⟩ := hcs
      simp only [if_true] at hn
      subst hn
      by_cases hc0 : n = 0
      · subst hc0
        obtain rfl : len = 0 := by omega
        exact ⟨.one (.sl ⟨.far a, 0, 0⟩), m, μ, List.prefix_rfl, Agree.refl _ _, hh, hold, rfl, rfl, ⟨.far a, 0, 0⟩, [], rfl, ⟨rfl, fun i hi => by simp at hi⟩, by simp, Nat.zero_le _⟩
      · obtain ⟨b, off, spot⟩ := a
        have hc1 := (hcell 0 (by omega)).1
        have hspot : spot = none := by simpa [Addr.add] using World.cell?_spot hc1
        subst hspot
        have hcell' : ∀ i, i < n → W.cell? ⟨b, off + i, none⟩ = some (.string (S i)) := fun i hi => by rw [← add_lit]; exact (hcell i hi).1
        have hblt : b < W.heap.size := World.block_lt_of_cell? W _ (hcell' 0 (by omega))
        have hget : ∀ i, i < len → ((List.range len).map fun i => (S i).data.toList).getD i [] = (S i).data.toList := fun i hi => by
          simp [List.getD_eq_getElem?_getD, hi]
        have htl : ((List.range len).map fun i => (S i).data.toList).length = len := by simp
        obtain ⟨μ', h1, h2, h3, h4⟩ := push_old_s hh hold b off n ((List.range len).map fun i => (S i).data.toList) hblt (fun i hi => by
          rw [htl] at hi
          rw [hget i hi, hcell' i (by omega)])
        refine ⟨.one (.sl ⟨.row m.length, 0, len⟩), _, μ', prefix_push _ _, h1, h3, h4, ?_, ?_, ⟨.row m.length, 0, len⟩, (List.range len).map fun i => (S i).data.toList, rfl, ⟨htl.symm, fun i hi => ?_⟩, fun u hu => ?_, by omega⟩
        · refine ⟨by simp, ?_⟩
          rw [h2]
          simpa using hl
        · simp only [concX, conc, SV.conc, h2]
          rfl
        · rw [Nat.zero_add]
          exact at_row (get_last m _) hi
        · obtain ⟨i, hi, rfl⟩ := List.mem_map.1 hu
          have hi := List.mem_range.1 hi
          have := (hcell i (by omega)).2
          rw [Array.length_toList]
          exact this
  | ints k =>
    obtain ⟨e, ht, he, hc⟩ := hk
    obtain ⟨a0, len, cap, rfl⟩ := okWide_slice ht hval
    obtain ⟨fuel, hf⟩ := hd
    rcases open_ints ht he hc hf with ⟨hcs, hx⟩ | ⟨a, len', cap', zs, hcs, _, hl, hm, hz, hx, hcell, hwz⟩
    · simp [Value.cells] at hcs
      obtain ⟨rfl, rfl, rfl⟩ := hcs
      exact ⟨.one (.sl SV.nil), m, μ, List.prefix_rfl, Agree.refl _ _, hh, hold, rfl, rfl, SV.nil, [], rfl, isInts_nil _ _, by simp, Nat.zero_le _⟩
    · simp [Value.cells] at hcs
      obtain ⟨rfl, rfl, rfl⟩ := hcs
      simp only [if_true] at hz
      by_cases hc0 : cap = 0
      · subst hc0
        obtain rfl : len = 0 := by omega
        exact ⟨.one (.sl ⟨.far a, 0, 0⟩), m, μ, List.prefix_rfl, Agree.refl _ _, hh, hold, rfl, rfl, ⟨.far a, 0, 0⟩, [], rfl, ⟨rfl, fun i hi => by simp at hi⟩, by simp, Nat.zero_le _⟩
      · obtain ⟨b, off, spot⟩ := a
        have hc1 := hcell 0 (by omega)
        have hspot : spot = none := by simpa [Addr.add] using World.cell?_spot hc1
        subst hspot
        have hcell' : ∀ i, i < zs.length → W.cell? ⟨b, off + i, none⟩ = some (.int k (zs.getD i 0)) := fun i hi => by rw [← add_lit]; exact hcell i hi
        have hblt : b < W.heap.size := World.block_lt_of_cell? W _ (hcell' 0 (by omega))
        have htl : (zs.take len).length = len := by rw [List.length_take]; omega
        obtain ⟨μ', h1, h2, h3, h4⟩ := push_old hh hold k b off cap (zs.take len) hblt (fun i hi => by
          rw [htl] at hi
          rw [hcell' i (by omega)]
          simp [List.getD_eq_getElem?_getD, hi])
        refine ⟨.one (.sl ⟨.row m.length, 0, len⟩), _, μ', prefix_push _ _, h1, h3, h4, ?_, ?_, ⟨.row m.length, 0, len⟩, zs.take len, rfl, ⟨htl.symm, fun i hi => ?_⟩, fun z hz => hwz z (List.mem_of_mem_take hz), by omega⟩
        · refine ⟨by simp, ?_⟩
          rw [h2]
          simpa using hl
        · simp only [concX, conc, SV.conc, h2]
          rfl
        · rw [Nat.zero_add]
          exact at_row (get_last m _) hi

theorem open_all {W : World} {b0 : Nat} : ∀ (ts : List TypeId) (kds : List Kd) (vs : List Value) (ds : List (DataW H)) (ps : List MemPlace) (m : Heap) (μ : Mu), HRel W.heap.size W μ m W → AllOld m → Kds P ts kds →
    (∀ (j : Nat) t v, ts[j]? = some t → vs[j]? = some v → Value.okWide P W .any b0 t v) → DataW.TrodAll enc P W 0 (fun _ => true) true ts vs ds ps →
    ∃ xs m' μ', m <+: m' ∧ Agree m.length μ μ' ∧ HRel W.heap.size W μ' m' W ∧ (∀ x ∈ xs, x.ok μ' m'.length) ∧ xs.map (concX μ') = vs ∧ ArgsAre m' kds xs
  | [], kds, vs, ds, ps, m, μ, hh, hold, hk, hval, hd => by
    obtain ⟨rfl, rfl, rfl⟩ := trodAll_nil hd
    cases kds with
    | nil => exact ⟨[], m, μ, List.prefix_rfl, Agree.refl _ _, hh, by simp, rfl, trivial⟩
    | cons _ _ => exact hk.elim
  | t :: ts, [], vs, ds, ps, m, μ, hh, hold, hk, hval, hd => hk.elim
  | t :: ts, k :: kds, vs, ds, ps, m, μ, hh, hold, hk, hval, hd => by
    obtain ⟨v, vs', d, ds', p, q, rfl, rfl, rfl, h1, h2⟩ := trodAll_cons hd
    obtain ⟨x, m1, μ1, a1, a2, a3, a4, a5, a6, a7⟩ := open_one hh hold hk.1 (hval 0 t v rfl rfl) h1
    obtain ⟨xs, m2, μ2, b1, b2, b3, b4, b5, b6⟩ := open_all ts kds vs' ds' q m1 μ1 a3 a4 hk.2 (fun j t v h h' => hval (j + 1) t v h h') h2
    have hc := concX_agree b2 a5
    refine ⟨x :: xs, m2, μ2, a1.trans b1, a2.trans b2 a1.length_le, b3, fun y hy => ?_, by rw [List.map_cons, hc.1, a6, b5], a7.pre b1, b6⟩
    rcases List.mem_cons.1 hy with rfl | hy
    · exact XV.ok_mono b1.length_le hc.2
    · exact b4 y hy

theorem stays_all {W W' : World} (hlaid : laidOutB P = true) (hb : Below W.heap.size W W') : ∀ (ts : List TypeId) (vs : List Value) (ds : List (DataW H)) (ps : List MemPlace), (∀ t ∈ ts, P.readableRec t = true ∧ t < P.types.size) →
    DataW.TrodAll enc P W 0 (fun _ => true) true ts vs ds ps → (∀ x ∈ ps, x.block < W.heap.size) → DataW.TrodAll enc P W' 0 (fun b => decide (b < W.heap.size)) true ts vs ds ps
  | [], vs, ds, ps, _, hd, _ => by
    obtain ⟨rfl, rfl, rfl⟩ := trodAll_nil hd
    exact trodAll_mk0
  | t :: ts, vs, ds, ps, hr, hd, hlt => by
    obtain ⟨v, vs', d, ds', p, q, rfl, rfl, rfl, h1, h2⟩ := trodAll_cons hd
    exact ⟨p, q, Below.trod hlaid (hr t (by simp)).1 (hr t (by simp)).2 h1 hb (fun x hx => hlt x (by simp [hx])), stays_all hlaid hb ts vs' ds' q (fun t ht => hr t (by simp [ht])) h2 (fun x hx => hlt x (by simp [hx])), rfl⟩

theorem trodAll_count {w : World} {base : Nat} {spare : Nat → Bool} {held : Bool} : ∀ {ts : List TypeId} {vs : List Value} {ds : List (DataW H)} {ps : List MemPlace}, DataW.TrodAll enc P w base spare held ts vs ds ps → ds.length = ts.length
  | [], vs, ds, ps, h => by obtain ⟨_, rfl, _⟩ := trodAll_nil h; rfl
  | t :: ts, vs, ds, ps, h => by
    obtain ⟨v, vs', d, ds', p, q, rfl, rfl, rfl, h1, h2⟩ := trodAll_cons h
    simp [trodAll_count h2]

theorem law_contract {f : FuncId} {fn : Func} {s : ChangeSpec} {ts : List TypeId} {kds : List Kd} {tb : TypeId} {apart fresh : Bool} (hk : Kds P ts kds) (hb : P.underlying tb = some .bool)
    (hlaid : laidOutB P = true) (hread : ts.all (fun t => P.readableRec t && decide (t < P.types.size)) = true) (hparams : fn.params.toList = ts) (hres : fn.resultTypes.toList = [tb]) (hsize : fn.resultTypes.size = 1) (hvars : s.vars = [])
    (hfn : ∀ ds : List (DataW H), ds.length = ts.length → s.fn H ds = { results := [.lit (.bool true)], args := ds })
    (law : ∀ (xs : List XV) (m : Heap), m.wf → ArgsAre m kds xs → AQuiet P f xs m (.one (.bool true)))
    (W : World) (base : Nat) (args : Array Value) (ds gs : List (DataW H)) (before : List MemPlace)
    (hval : ∀ (j : Nat) t v, fn.params[j]? = some t → args[j]? = some v → Value.okWide P W .any base t v) (hW : DataW.Whole enc P fn.params.toList s.vars apart W args.toList ds gs before) :
    Calls P f args W fun e W' => ∃ v, e = .returned v ∧ s.post enc P fn apart fresh false false W args v W' := by
  have hW' := hW
  obtain ⟨p, q, hA0, hV, rfl, hfz, hnd⟩ := hW
  have hA : DataW.TrodAll enc P W 0 (fun _ => true) true fn.params.toList args.toList ds p := hA0
  rw [hparams] at hA
  rw [hvars] at hV
  obtain ⟨rfl, rfl⟩ := trodVars_none hV
  simp only [List.append_nil] at hW'
  obtain ⟨xs, m, μ, _, _, hh, hok, hconc, hargs⟩ := open_all (b0 := base) ts kds args.toList ds p [] (fun _ => default) (start_empty W _) (fun id r h => by simp at h) hk (fun j t v h1 h2 => hval j t v (by rw [← Array.getElem?_toList, hparams]; exact h1) (by rw [← Array.getElem?_toList]; exact h2)) hA
  have hlen := trodAll_count hA
  have fin := law xs m (fun id r hr => (hh.rows id r hr).fam) hargs W.heap.size W μ W hh hok
  rw [hconc] at fin
  have ea : args.toList.toArray = args := by simp
  rw [ea] at fin
  refine fin.mono fun e W' => ?_
  rintro ⟨x, m', μ', ⟨rfl, _⟩, rfl, _, h2, _⟩
  have hB := h2.below
  refine ⟨_, rfl, ds, [], p, [], p, [], hW', ?_, ?_, ?_, hB.frame _, fun h => by cases h⟩
  · rw [hres, hsize, List.append_nil, hfn ds hlen]
    exact trodAll_mk1 (shut_bool hb true)
  · rw [hparams, List.append_nil, hfn ds hlen]
    exact stays_all hlaid hB ts _ ds p (fun t ht => by have := List.all_eq_true.1 hread t ht; simpa using this) hA fun x hx => hW'.lt x hx
  · rw [hvars, List.append_nil, hfn ds hlen]
    rfl

end
end Go.Abs

/- Memory that grows: what a call leaves alone, told by families of rows. Own work; no condition. -/
set_option maxRecDepth 100000
set_option linter.unusedSimpArgs false
set_option linter.unusedVariables false
namespace Go.Abs
open Go.Proofs
attribute [local irreducible] awp awpOps awpKeep KeepK awpKeepF KeepF aloop ALoop ACalls ACallq AQuiet retPost retPostA AExit.thn AExit.blk aApp aSt aStA

theorem row_prefix0 {m m' : Heap} (h : m <+: m') {id : Nat} {r : Row} (hr : m[id]? = some r) : m'[id]? = some r := by
  obtain ⟨t, rfl⟩ := h
  rw [List.getElem?_append_left (List.getElem?_eq_some_iff.1 hr).1]
  exact hr
theorem Vals.take_len_le (v : Vals) (n : Nat) : (v.take n).len ≤ v.len := by rw [Vals.len_take]; exact Nat.min_le_right _ _

/-- From m to m' only rows of families in a..b have changed, and new rows are of new families, or of these. -/
structure Grow (a b : Nat) (m m' : Heap) : Prop where
  le : m.length ≤ m'.length
  keep : ∀ (id : Nat) (r : Row), m[id]? = some r → (r.fam < a ∨ b ≤ r.fam) → m'[id]? = some r
  old : ∀ (id : Nat) (r' : Row), id < m.length → m'[id]? = some r' → ∃ r, m[id]? = some r ∧ r.fam = r'.fam ∧ r.own = r'.own ∧ r'.vals.len ≤ r.vals.len
  new : ∀ (id : Nat) (r' : Row), m.length ≤ id → m'[id]? = some r' → m.length ≤ r'.fam ∨ (a ≤ r'.fam ∧ r'.fam < b)
  wf : m'.wf

theorem Grow.refl {m : Heap} (h : m.wf) (a b : Nat) : Grow a b m m :=
  ⟨Nat.le_refl _, fun _ _ h _ => h, fun _ r _ h => ⟨r, h, rfl, rfl, Nat.le_refl _⟩, fun id r hl h => absurd (get_lt h) (by omega), h⟩

theorem Grow.trans {a b : Nat} {m m' m'' : Heap} (h : Grow a b m m') (h' : Grow a b m' m'') : Grow a b m m'' := by
  refine ⟨Nat.le_trans h.le h'.le, fun id r hr hf => h'.keep id r (h.keep id r hr hf) hf, fun id r'' hl hr => ?_, fun id r'' hl hr => ?_, h'.wf⟩
  · have := h.le
    obtain ⟨r', g1, g2, g3, g4⟩ := h'.old id r'' (by omega) hr
    obtain ⟨r, e1, e2, e3, e4⟩ := h.old id r' hl g1
    exact ⟨r, e1, e2.trans g2, e3.trans g3, Nat.le_trans g4 e4⟩
  · by_cases hl' : id < m'.length
    · obtain ⟨r', g1, g2, _⟩ := h'.old id r'' hl' hr
      rw [← g2]
      exact h.new id r' hl g1
    · have := h.le
      rcases h'.new id r'' (by omega) hr with h1 | h1
      · exact .inl (by omega)
      · exact .inr h1

theorem Grow.mono {a b a' b' : Nat} {m m' : Heap} (h : Grow a b m m') (ha : a' ≤ a) (hb : b ≤ b') : Grow a' b' m m' :=
  ⟨h.le, fun id r hr hf => h.keep id r hr (by omega), h.old, fun id r hl hr => by rcases h.new id r hl hr with h1 | h1 <;> omega, h.wf⟩

/-- A call that leaves all rows alone. -/
theorem Grow.any {m m' : Heap} (h : Grow 0 0 m m') (a b : Nat) : Grow a b m m' :=
  ⟨h.le, fun id r hr _ => h.keep id r hr (.inr (Nat.zero_le _)), h.old, fun id r hl hr => by rcases h.new id r hl hr with h1 | h1 <;> omega, h.wf⟩

/-- What is done to families made since m is not seen in m. -/
theorem Grow.into {a b c d : Nat} {m m' m'' : Heap} (hwf : m.wf) (h : Grow a b m m') (h' : Grow c d m' m'') (hc : m.length ≤ c) : Grow a b m m'' := by
  refine ⟨Nat.le_trans h.le h'.le, fun id r hr hf => h'.keep id r (h.keep id r hr hf) (.inl ?_), fun id r'' hl hr => ?_, fun id r'' hl hr => ?_, h'.wf⟩
  · have := hwf id r hr
    have := get_lt hr
    omega
  · have := h.le
    obtain ⟨r', g1, g2, g3, g4⟩ := h'.old id r'' (by omega) hr
    obtain ⟨r, e1, e2, e3, e4⟩ := h.old id r' hl g1
    exact ⟨r, e1, e2.trans g2, e3.trans g3, Nat.le_trans g4 e4⟩
  · by_cases hl' : id < m'.length
    · obtain ⟨r', g1, g2, _⟩ := h'.old id r'' hl' hr
      rw [← g2]
      exact h.new id r' hl g1
    · have := h.le
      rcases h'.new id r'' (by omega) hr with h1 | h1 <;> exact .inl (by omega)

theorem Grow.push {m : Heap} (h : m.wf) (e : TypeId) (o : Bool) (v : Vals) : Grow 0 0 m (m ++ [⟨e, m.length, o, v⟩]) := by
  refine ⟨by simp, fun id r hr _ => row_at_push hr _, fun id r hl hr => ?_, fun id r hl hr => ?_, wf_push h (Nat.le_refl _)⟩
  · rcases get_push hr with ⟨_, h2⟩ | ⟨h1, _⟩
    · exact ⟨r, h2, rfl, rfl, Nat.le_refl _⟩
    · omega
  · rcases get_push hr with ⟨h1, _⟩ | ⟨_, rfl⟩
    · omega
    · exact .inl (Nat.le_refl _)

theorem grow00 {m m' : Heap} (hp : m <+: m') (h : Grow m.length m'.length m m') : Grow 0 0 m m' :=
  ⟨h.le, fun id r hr _ => row_prefix0 hp hr, h.old, fun id r hl hr => by rcases h.new id r hl hr with h1 | h1 <;> exact .inl (by omega), h.wf⟩

theorem prefix_of_get {m m' : Heap} (h : ∀ (id : Nat) (r : Row), m[id]? = some r → m'[id]? = some r) : m <+: m' := by
  refine ⟨m'.drop m.length, List.ext_getElem? fun i => ?_⟩
  by_cases hi : i < m.length
  · rw [List.getElem?_append_left hi, List.getElem?_eq_getElem hi]
    exact (h i _ (List.getElem?_eq_getElem hi)).symm
  · rw [List.getElem?_append_right (by omega), List.getElem?_drop, show m.length + (i - m.length) = i by omega]

/-- What was there ahead of the families that change is there still. -/
theorem Grow.pre {a b : Nat} {m0 m m' : Heap} (h : Grow a b m m') (h0 : m0 <+: m) (hwf : m0.wf) (ha : m0.length ≤ a) : m0 <+: m' :=
  prefix_of_get fun id r hr => h.keep id r (row_prefix0 h0 hr) (.inl (by have := hwf id r hr; have := get_lt hr; omega))
theorem Grow.pre0 {m m' : Heap} (h : Grow 0 0 m m') : m <+: m' := prefix_of_get fun id r hr => h.keep id r hr (.inr (Nat.zero_le _))

/-- A slice that is the whole of a row of the call's own, of a family in a..b; or nothing. -/
def Obj (e : TypeId) (a b : Nat) (m : Heap) (s : SV) (v : Vals) : Prop :=
  (s = SV.nil ∧ v.len = 0) ∨ ∃ id f, a ≤ f ∧ f < b ∧ s = ⟨.row id, 0, v.len⟩ ∧ m[id]? = some ⟨e, f, true, v⟩

theorem Obj.grow {e : TypeId} {a b c d : Nat} {m m' : Heap} {s : SV} {v : Vals} (h : Obj e c d m s v) (g : Grow a b m m') (hd : d ≤ a ∨ b ≤ c) : Obj e c d m' s v := by
  rcases h with h | ⟨id, f, h1, h2, h3, h4⟩
  · exact .inl h
  · exact .inr ⟨id, f, h1, h2, h3, g.keep id _ h4 (by simp only; omega)⟩
theorem Obj.grow0 {e : TypeId} {c d : Nat} {m m' : Heap} {s : SV} {v : Vals} (h : Obj e c d m s v) (g : Grow 0 0 m m') : Obj e c d m' s v := h.grow g (.inr (Nat.zero_le _))
theorem Obj.mono {e : TypeId} {a b a' b' : Nat} {m : Heap} {s : SV} {v : Vals} (h : Obj e a b m s v) (ha : a' ≤ a) (hb : b ≤ b') : Obj e a' b' m s v := by
  rcases h with h | ⟨id, f, h1, h2, h3, h4⟩
  · exact .inl h
  · exact .inr ⟨id, f, by omega, by omega, h3, h4⟩
theorem Obj.len {e : TypeId} {a b : Nat} {m : Heap} {s : SV} {v : Vals} (h : Obj e a b m s v) : s.len = v.len := by
  rcases h with ⟨rfl, h⟩ | ⟨id, f, h1, h2, rfl, h4⟩
  · exact h.symm
  · rfl
theorem Obj.isInts {e : TypeId} {k : IntKind} {a b : Nat} {m : Heap} {s : SV} {l : List Int} (h : Obj e a b m s (.ints k l)) : IsInts k m s l := by
  rcases h with ⟨rfl, h0⟩ | ⟨id, f, _, _, rfl, h4⟩
  · simp only [Vals.len] at h0
    rw [List.eq_nil_of_length_eq_zero h0]; exact isInts_nil k m
  · refine ⟨rfl, fun i hi => ?_⟩
    rw [Nat.zero_add]
    exact at_row h4 hi
theorem Obj.isSls {e : TypeId} {a b : Nat} {m : Heap} {s : SV} {l : List SV} (h : Obj e a b m s (.sls l)) : IsSls m s l := by
  rcases h with ⟨rfl, h0⟩ | ⟨id, f, _, _, rfl, h4⟩
  · simp only [Vals.len] at h0
    rw [List.eq_nil_of_length_eq_zero h0]; exact ⟨rfl, fun i hi => by simp at hi⟩
  · refine ⟨rfl, fun i hi => ?_⟩
    rw [Nat.zero_add]
    exact at_row h4 hi
theorem obj_new {m : Heap} (e : TypeId) (v : Vals) {n : Nat} (hn : n = v.len) {a b : Nat} (ha : a ≤ m.length) (hb : m.length < b) : Obj e a b (m ++ [⟨e, m.length, true, v⟩]) ⟨.row m.length, 0, n⟩ v := by
  subst hn
  exact .inr ⟨m.length, m.length, ha, hb, rfl, get_last _ _⟩
theorem obj_nil (e : TypeId) (k : IntKind) (a b : Nat) (m : Heap) : Obj e a b m SV.nil (.ints k []) := .inl ⟨rfl, rfl⟩

/-- A slice to which is appended: no longer row is of its family f. -/
def Acc (e : TypeId) (f : Nat) (m : Heap) (s : SV) (v : Vals) : Prop :=
  (s = SV.nil ∧ v.len = 0) ∨ ∃ id, s = ⟨.row id, 0, v.len⟩ ∧ m[id]? = some ⟨e, f, true, v⟩ ∧ ∀ (j : Nat) (r : Row), m[j]? = some r → r.own = true → r.fam = f → r.vals.len ≤ v.len

theorem Acc.obj {e : TypeId} {f a b : Nat} {m : Heap} {s : SV} {v : Vals} (h : Acc e f m s v) (ha : a ≤ f) (hb : f < b) : Obj e a b m s v := by
  rcases h with h | ⟨id, h3, h4, _⟩
  · exact .inl h
  · exact .inr ⟨id, f, ha, hb, h3, h4⟩
theorem Acc.grow {e : TypeId} {f a b : Nat} {m m' : Heap} {s : SV} {v : Vals} (h : Acc e f m s v) (g : Grow a b m m') (hd : f < a ∨ b ≤ f) (hf : f < m.length) : Acc e f m' s v := by
  rcases h with h | ⟨id, h3, h4, h5⟩
  · exact .inl h
  · refine .inr ⟨id, h3, g.keep id _ h4 (by simp only; omega), fun j r hr ho he => ?_⟩
    by_cases hj : j < m.length
    · obtain ⟨r0, e1, e2, e3, e4⟩ := g.old j r hj hr
      have := h5 j r0 e1 (by rw [e3]; exact ho) (by rw [e2]; exact he)
      omega
    · rcases g.new j r (by omega) hr with h1 | h1 <;> omega
theorem Acc.grow0 {e : TypeId} {f : Nat} {m m' : Heap} {s : SV} {v : Vals} (h : Acc e f m s v) (g : Grow 0 0 m m') (hf : f < m.length) : Acc e f m' s v := h.grow g (.inr (Nat.zero_le _)) hf
theorem acc_nil (e : TypeId) (k : IntKind) (f : Nat) (m : Heap) : Acc e f m SV.nil (.ints k []) := .inl ⟨rfl, rfl⟩
theorem acc_new {m : Heap} (hwf : m.wf) (e : TypeId) (v : Vals) {n : Nat} (hn : n = v.len) : Acc e m.length (m ++ [⟨e, m.length, true, v⟩]) ⟨.row m.length, 0, n⟩ v := by
  subst hn
  refine .inr ⟨m.length, rfl, get_last _ _, fun j r hr _ hf => ?_⟩
  rcases get_push hr with ⟨h1, h2⟩ | ⟨_, rfl⟩
  · have := hwf j r h2; omega
  · exact Nat.le_refl _

/-- append(s, x...), the row of x known. -/
theorem app_acc {e : TypeId} {s x : SV} {m : Heap} {K : XV → Heap → Prop} {v u t : Vals} {f xi : Nat} {rx : Row} (hwf : m.wf) (hs : Acc e f m s v) (hx : x = ⟨.row xi, 0, rx.vals.len⟩) (hrx : m[xi]? = some rx) (hu : rx.vals = u) (hpos : 0 < u.len)
    (hlen : v.len + u.len ≤ 1099511627776) (ht : v.app u = some t) (hk : ∀ (s' : SV) (m' : Heap) (f' : Nat), m <+: m' → (∀ a b, (s = SV.nil ∨ a ≤ f ∧ f < b) → Grow a b m m') → Acc e f' m' s' t → (f' = f ∧ s ≠ SV.nil) ∨ m.length ≤ f' → f' < m'.length → K (.one (.sl s')) m') : aApp e s x m K := by
  subst hx
  subst hu
  obtain ⟨t1, t2⟩ := Vals.app_spec ht
  rcases hs with ⟨rfl, hv0⟩ | ⟨id, rfl, hid, hfam⟩
  · simp only [aApp, hrx, Nat.zero_add, Vals.sub_len]
    refine ⟨⟨Nat.le_refl _, by omega⟩, fun h => absurd h (by omega), fun _ => ?_⟩
    have e1 : rx.vals = t := by
      cases v <;> cases hq : rx.vals <;> rw [hq] at ht <;> simp only [Vals.app] at ht <;> first | (cases ht; done) | skip
      case ints.ints k l k' l' =>
        split at ht
        · rename_i e; cases ht; subst e; simp only [Vals.len] at hv0; rw [List.eq_nil_of_length_eq_zero hv0]; rfl
        · cases ht
      all_goals (cases ht; simp only [Vals.len] at hv0; rw [List.eq_nil_of_length_eq_zero hv0]; rfl)
    rw [e1]
    exact hk _ _ _ (prefix_push _ _) (fun a b _ => (Grow.push hwf _ _ _).any _ _) (acc_new hwf e t rfl) (.inr (Nat.le_refl _)) (by simp)
  · simp only [aApp, hrx, hid, Nat.zero_add, Vals.sub_len, Vals.take_len, ht]
    refine ⟨⟨Nat.le_refl _, hlen⟩, ⟨trivial, trivial, Nat.le_refl _, trivial⟩, ?_⟩
    rw [cutFam_self hfam]
    have hil : id < m.length := get_lt hid
    have hfid := hwf id _ hid
    simp only at hfid
    refine hk _ _ f (prefix_push _ _) (fun a b hab => ⟨by simp, fun i r hr _ => row_at_push hr _, fun i r hl hr => ?_, fun i r hl hr => ?_, wf_push hwf (by omega)⟩) (.inr ⟨m.length, by rw [t1], get_last _ _, fun j r hr ho hf => ?_⟩) (.inl ⟨rfl, fun h => by cases h⟩) (by rw [List.length_append]; omega)
    · rcases get_push hr with ⟨_, h2⟩ | ⟨h1, _⟩
      · exact ⟨r, h2, rfl, rfl, Nat.le_refl _⟩
      · omega
    · rcases get_push hr with ⟨h1, _⟩ | ⟨_, rfl⟩
      · omega
      · rcases hab with h | h
        · cases h
        · exact .inr h
    · rcases get_push hr with ⟨_, h2⟩ | ⟨_, rfl⟩
      · have := hfam j r h2 ho hf; omega
      · exact Nat.le_refl _

/-- append(s, z), z boxed just ahead. -/
theorem app_box {s : SV} {m : Heap} {K : XV → Heap → Prop} {e : TypeId} {v u t : Vals} {f : Nat} (hwf : m.wf) (hs : Acc e f m s v) (hu : u.len = 1) (hlen : v.len ≤ 1000000000) (ht : v.app u = some t)
    (hk : ∀ (s' : SV) (m' : Heap) (f' : Nat), m <+: m' → (∀ a b, (s = SV.nil ∨ a ≤ f ∧ f < b) → Grow a b m m') → Acc e f' m' s' t → (f' = f ∧ s ≠ SV.nil) ∨ m.length ≤ f' → f' < m'.length → K (.one (.sl s')) m') : aApp e s ⟨.row m.length, 0, 1⟩ (m ++ [⟨e, m.length, true, u⟩]) K := by
  have g := Grow.push hwf e true u
  have hs2 : Acc e f (m ++ [⟨e, m.length, true, u⟩]) s v := by
    rcases hs with h | ⟨id, h1, h2, h3⟩
    · exact .inl h
    · exact Acc.grow0 (show Acc e f m s v from .inr ⟨id, h1, h2, h3⟩) g (by have := hwf id _ h2; have := get_lt h2; simp only at *; omega)
  refine app_acc (u := u) (t := t) g.wf hs2 (by rw [hu]) (get_last _ _) rfl (by omega) (by omega) ht fun s' m' f' hp hg ha hf' hl => ?_
  refine hk s' m' f' ((prefix_push _ _).trans hp) (fun a b hab => (g.any _ _).trans (hg a b hab)) ha ?_ hl
  rcases hf' with h | h
  · exact .inl h
  · exact .inr (by simp at h; omega)

theorem app_int {s : SV} {m : Heap} {K : XV → Heap → Prop} {e : TypeId} {l : List Int} {z : Int} {f : Nat} (hwf : m.wf) (hs : Acc e f m s (.ints .i64 l)) (hlen : l.length ≤ 1000000000)
    (hk : ∀ (s' : SV) (m' : Heap) (f' : Nat), m <+: m' → (∀ a b, (s = SV.nil ∨ a ≤ f ∧ f < b) → Grow a b m m') → Acc e f' m' s' (.ints .i64 (l ++ [z])) → (f' = f ∧ s ≠ SV.nil) ∨ m.length ≤ f' → f' < m'.length → K (.one (.sl s')) m') : aApp e s ⟨.row m.length, 0, 1⟩ (m ++ [⟨e, m.length, true, .ints .i64 [z]⟩]) K :=
  app_box hwf hs rfl (by simpa [Vals.len] using hlen) (by simp [Vals.app]) hk

theorem app_sl {s sv : SV} {m : Heap} {K : XV → Heap → Prop} {e : TypeId} {l : List SV} {f : Nat} (hwf : m.wf) (hs : Acc e f m s (.sls l)) (hlen : l.length ≤ 1000000000)
    (hk : ∀ (s' : SV) (m' : Heap) (f' : Nat), m <+: m' → (∀ a b, (s = SV.nil ∨ a ≤ f ∧ f < b) → Grow a b m m') → Acc e f' m' s' (.sls (l ++ [sv])) → (f' = f ∧ s ≠ SV.nil) ∨ m.length ≤ f' → f' < m'.length → K (.one (.sl s')) m') : aApp e s ⟨.row m.length, 0, 1⟩ (m ++ [⟨e, m.length, true, .sls [sv]⟩]) K :=
  app_box hwf hs rfl (by simpa [Vals.len] using hlen) (by simp [Vals.app]) hk

/-- A row of the call's own is known anew. -/
theorem setRow_grow {m : Heap} {id off e f : Nat} {v v' : Vals} {K : Heap → Prop} (hwf : m.wf) (hrow : m[id]? = some ⟨e, f, true, v⟩) (hlv : v'.len = v.len)
    (hk : ∀ m' : Heap, Grow f (f + 1) m m' → m'.length = m.length → m'[id]? = some ⟨e, f, true, v'⟩ → K m') : K (m.setRow id off ⟨e, f, true, v⟩ v') := by
  have hil := get_lt hrow
  have hid : (m.setRow id off ⟨e, f, true, v⟩ v')[id]? = some ⟨e, f, true, v'⟩ := by
    unfold Heap.setRow
    rw [List.getElem?_set, if_pos rfl, if_pos (by rw [cutFam_length]; exact hil)]
  have hne : ∀ j, j ≠ id → (m.setRow id off ⟨e, f, true, v⟩ v')[j]? = m[j]?.map (fun r => if r.own = true ∧ r.fam = f then r.cut off else r) := fun j hj => by
    unfold Heap.setRow
    rw [List.getElem?_set, if_neg (fun h => hj h.symm), cutFam_get]
  have hlen : (m.setRow id off ⟨e, f, true, v⟩ v').length = m.length := by unfold Heap.setRow; rw [List.length_set, cutFam_length]
  have hold : ∀ (j : Nat) (r' : Row), (m.setRow id off ⟨e, f, true, v⟩ v')[j]? = some r' → ∃ r, m[j]? = some r ∧ r.fam = r'.fam ∧ r.own = r'.own ∧ r'.vals.len ≤ r.vals.len := fun j r' hr => by
    by_cases hj : j = id
    · subst hj
      rw [hid] at hr
      cases hr
      exact ⟨_, hrow, rfl, rfl, Nat.le_of_eq hlv⟩
    · rw [hne j hj] at hr
      cases hm : m[j]? with
      | none => rw [hm] at hr; cases hr
      | some r =>
        rw [hm] at hr
        simp only [Option.map_some, Option.some.injEq] at hr
        refine ⟨r, rfl, ?_⟩
        subst hr
        split
        · refine ⟨rfl, rfl, ?_⟩
          unfold Row.cut
          exact Vals.take_len_le _ _
        · exact ⟨rfl, rfl, Nat.le_refl _⟩
  refine hk _ ⟨Nat.le_of_eq hlen.symm, fun j r hr hf => ?_, fun j r' _ hr => hold j r' hr, fun j r hl hr => absurd (get_lt hr) (by omega), fun j r' hr => ?_⟩ hlen hid
  · have hj : j ≠ id := fun h => by
      subst h
      rw [hrow] at hr
      cases hr
      simp only at hf
      omega
    rw [hne j hj, hr]
    simp only [Option.map_some]
    rw [if_neg (fun h => by omega)]
  · obtain ⟨r, h1, h2, _⟩ := hold j r' hr
    have := hwf j r h1
    omega

/-- A store into a row of the call's own. -/
theorem st_row {m : Heap} {id off e f : Nat} {x : AV} {v v' : Vals} {K : Heap → Prop} (hwf : m.wf) (hrow : m[id]? = some ⟨e, f, true, v⟩) (hlt : off < v.len) (hset : v.set off x = some v')
    (hk : ∀ m' : Heap, Grow f (f + 1) m m' → m'.length = m.length → m'[id]? = some ⟨e, f, true, v'⟩ → K m') : aSt m id off x K := by
  unfold aSt
  rw [hrow]
  simp only
  refine ⟨⟨trivial, hlt⟩, ?_⟩
  rw [hset]
  exact setRow_grow hwf hrow (Vals.set_spec hset hlt).1 hk

/-- A store of all cells of a variable. -/
theorem st_agg {m : Heap} {id e f n : Nat} {v : Vals} {l : List AV} {v' : Vals} {K : Heap → Prop} (hwf : m.wf) (hrow : m[id]? = some ⟨e, f, true, v⟩) (hn : n = l.length) (hlen : v.len = n) (hv : Vals.ofAgg l = v')
    (hk : ∀ m' : Heap, Grow f (f + 1) m m' → m'.length = m.length → m'[id]? = some ⟨e, f, true, v'⟩ → K m') : aStA m id 0 n l K := by
  unfold aStA
  rw [hrow]
  refine ⟨⟨rfl, rfl, hn, hlen⟩, ?_⟩
  rw [hv]
  exact setRow_grow hwf hrow (by rw [← hv, (ofAgg_spec l).1]; omega) hk

theorem Acc.st {e f id : Nat} {m m' : Heap} {v v' : Vals} {n : Nat} (h : Acc e f m ⟨.row id, 0, n⟩ v) (g : Grow f (f + 1) m m') (hl : m'.length = m.length) (hv : v'.len = v.len) (hr : m'[id]? = some ⟨e, f, true, v'⟩) : Acc e f m' ⟨.row id, 0, n⟩ v' := by
  rcases h with ⟨h, _⟩ | ⟨id', h3, h4, h5⟩
  · cases h
  · obtain ⟨rfl, rfl⟩ : id = id' ∧ n = v.len := by simpa using h3
    refine .inr ⟨id, by rw [hv], hr, fun j r hj ho hf => ?_⟩
    obtain ⟨r0, e1, e2, e3, e4⟩ := g.old j r (by have := get_lt hj; omega) hj
    have := h5 j r0 e1 (by rw [e3]; exact ho) (by rw [e2]; exact hf)
    omega

/-- A call that hands back a slice in new memory, and leaves all rows alone. -/
def ARet (P : Program) (f : FuncId) (args : List XV) (m : Heap) (e : TypeId) (v : Vals) : Prop :=
  ACalls P f args m fun x m' => ∃ s', x = .one (.sl s') ∧ Grow 0 0 m m' ∧ Obj e m.length m'.length m' s' v

theorem ARet.call {P : Program} {f : FuncId} {args : List XV} {m : Heap} {e : TypeId} {v : Vals} {K : XV → Heap → Prop} (h : ARet P f args m e v) (hk : ∀ (s' : SV) (m' : Heap), Grow 0 0 m m' → Obj e m.length m'.length m' s' v → K (.one (.sl s')) m') : ACalls P f args m K :=
  ACalls.mono h fun _ m' ⟨s', hx, hg, ho⟩ => hx ▸ hk s' m' hg ho

theorem ARet.eq {P : Program} {f : FuncId} {args : List XV} {m : Heap} {e : TypeId} {v v' : Vals} (h : ARet P f args m e v) (hv : v = v') : ARet P f args m e v' := hv ▸ h

theorem arn {P : Program} {f : FuncId} {n : Nat} {code : ACode} {res : List Nat} (ht : trFnC P f = some ⟨n, code, res⟩) {args : List XV} {m : Heap} {e : TypeId} {v : Vals} (hlen : Nat.ble args.length n = true)
    (h : m.wf → awp P code (retPost res fun x m' => ∃ s', x = .one (.sl s') ∧ Grow 0 0 m m' ∧ Obj e m.length m'.length m' s' v) (argFrame 0 args) m) : ARet P f args m e v :=
  ACalls.wf fun hwf => afn ht hlen (h hwf)

/-- The same of a slice and what comes with it. -/
def ARet2 (P : Program) (f : FuncId) (args : List XV) (m : Heap) (e : TypeId) (v : Vals) (b : AV) : Prop :=
  ACalls P f args m fun x m' => ∃ s', x = .tup [.sl s', b] ∧ Grow 0 0 m m' ∧ Obj e m.length m'.length m' s' v

end Go.Abs

/- Marks into results, and what is held. Own work; no condition. -/
set_option maxRecDepth 100000
set_option linter.unusedSimpArgs false
set_option linter.unusedVariables false
namespace Go.Abs
open Go.Proofs
attribute [local irreducible] awp awpOps awpKeep KeepK awpKeepF KeepF aloop ALoop ACalls ACallq AQuiet retPost retPostA AExit.thn AExit.blk aApp aSt aStA

theorem AQuiet.wf {P : Program} {f : FuncId} {xs : List XV} {m : Heap} {v : XV} (h : m.wf → AQuiet P f xs m v) : AQuiet P f xs m v := by unfold AQuiet at *; exact ACalls.wf h
theorem AQuiet.yes {P : Program} {f : FuncId} {xs : List XV} {m : Heap} {p : Prop} [Decidable p] (h : AQuiet P f xs m (.one (.bool (decide p)))) (hp : p) : AQuiet P f xs m (.one (.bool true)) := by rw [decide_eq_true hp] at h; exact h
theorem AQuiet.no {P : Program} {f : FuncId} {xs : List XV} {m : Heap} {p : Prop} [Decidable p] (h : AQuiet P f xs m (.one (.bool (decide p)))) (hp : ¬ p) : AQuiet P f xs m (.one (.bool false)) := by rw [decide_eq_false hp] at h; exact h

/-- The numbers from k on, as many as n. -/
def marks (k : Int) (n : Nat) : List Int := (List.range n).map fun i : Nat => k + (i : Int)
theorem marks_len (k : Int) (n : Nat) : (marks k n).length = n := by simp [marks]
theorem marks_get (k : Int) {n i : Nat} (h : i < n) : (marks k n).getD i 0 = k + i := by simp [marks, List.getD_eq_getElem?_getD, h]

theorem marks_set (k : Int) (l : List Int) {i : Nat} (hi : i < l.length) : (marks k i ++ l.drop i).set i (k + i) = marks k (i + 1) ++ l.drop (i + 1) := by
  rw [List.set_append_right _ _ (by rw [marks_len]; exact Nat.le_refl _), marks_len, Nat.sub_self, List.drop_eq_getElem_cons hi, List.set_cons_zero]
  unfold marks
  rw [List.range_succ, List.map_append, List.append_assoc]
  rfl

theorem laws_markIntS {s : SV} {l : List Int} {m : Heap} {a b : Nat} {k : Int} {K : XV → Heap → Prop} (hwf : m.wf) (h : Obj Ty.int a b m s (.ints .i64 l)) (hl : l.length ≤ 1048576) (hk : 0 ≤ k ∧ k ≤ 1000000000)
    (hK : ∀ m' : Heap, Grow a b m m' → Obj Ty.int a b m' s (.ints .i64 (marks k l.length)) → K (.one (.int .i64 (k + l.length))) m') : ACalls Try.prog F.laws_markIntS [.one (.sl s), .one (.int .i64 k)] m K := by
  refine afn T.laws_markIntS (by rfl) ?_
  rcases h with ⟨rfl, h0⟩ | ⟨id, f, ha, hb, rfl, hrow⟩
  · simp only [Vals.len] at h0
    obtain rfl : l = [] := List.eq_nil_of_length_eq_zero h0
    repeat' (first | refine xA ?_ | refine xB ?_ | refine xC ?_ | refine xD ?_ | refine xE ?_ | refine xF ?_ | refine xG ?_ | refine xH ?_ | refine xI rfl ?_ | refine xJ ?_ | refine xK ?_ | refine xL ?_ | refine xM rfl ?_ | refine xN rfl ?_ | refine xO rfl ?_ | (first | refine xP rfl (fun hif => ?_) (fun hif => ?_) | refine xQ rfl (fun hif => ?_) (fun hif => ?_) | refine xR rfl (fun hif => ?_) (fun hif => ?_) | refine xS rfl (fun hif => ?_) (fun hif => ?_)) <;> try (first | contradiction | (exfalso; omega)) | (refine hK _ _ ?_; clear hK K) | (refine And.intro (by first | omega | assumption | (constructor <;> omega)) ?_) | (refine And.intro (fun hif => ?_) (fun hif => ?_) <;> try (first | contradiction | (exfalso; omega))) | ((first | refine xT fun K hK => ?_ | refine xU fun K hK => ?_ | refine yB (fun K hK => ?_) (fun K hK => ?_) | refine xV ?_ | refine yA ?_ | refine xW ?_ | refine xX ?_ | refine xY ?_ | refine xZ ?_) <;> simp only [↓awpOps, ↓awpKeep, ↓awpKeepF, ↓aop, ↓aopQ, ↓abin, ↓aun, ↓onSome_some, ↓Kont_at, ↓KM_at, ↓KV_at, ↓KU_at, refId_row, Frame.ev, Frame.evs, Frame.evOr, Frame.put, Frame.keep, get_nil, get_cons, argFrame, resOf, fillA, Vals.len, Vals.get, Vals.set, Vals.app, Vals.sub, Vals.take, Vals.ofAgg_cons, Vals.ofList, Vals.toInts, Vals.toBools, Vals.toSls, Vals.toStrs, Vals.zeros, Nat.reduceBEq, Nat.reduceAdd, Nat.reduceEqDiff, cond_true, cond_false, Option.map_some, Option.map_none, List.length_cons, List.length_nil, List.replicate, List.set_cons_zero, List.set_cons_succ, Nat.reduceLT, Bool.not_true, Bool.not_false, Int.toNat_natCast, inR, Nat.zero_add, Int.toNat_zero, reduceCtorEq, IntKind.bits, List.nil_append, List.cons_append, Nat.add_zero, Nat.sub_zero, noughts_len, List.map_cons, List.map_nil, zp, zu]) | refine And.intro ?_ (fun hif => (hif trivial).elim) | (intro hif; try (first | contradiction | (exfalso; omega))))
    refine awp_loop ?_
    refine ALoop.by [0, 1, 5] (fun _ : Unit => [(0, .one (.sl SV.nil)), (1, .one (.int .i64 k)), (5, .one (.int .i64 0))]) (fun _ => m) (fun _ => True) (fun _ => 0) () rfl rfl trivial ?_
    rintro _ _ K1 hK1
    repeat' (first | refine xA ?_ | refine xB ?_ | refine xC ?_ | refine xD ?_ | refine xE ?_ | refine xF ?_ | refine xG ?_ | refine xH ?_ | refine xI rfl ?_ | refine xJ ?_ | refine xK ?_ | refine xL ?_ | refine xM rfl ?_ | refine xN rfl ?_ | refine xO rfl ?_ | (first | refine xP rfl (fun hif => ?_) (fun hif => ?_) | refine xQ rfl (fun hif => ?_) (fun hif => ?_) | refine xR rfl (fun hif => ?_) (fun hif => ?_) | refine xS rfl (fun hif => ?_) (fun hif => ?_)) <;> try (first | contradiction | (exfalso; omega)) | (refine hK _ _ ?_; clear hK K) | (refine And.intro (by first | omega | assumption | (constructor <;> omega)) ?_) | (refine And.intro (fun hif => ?_) (fun hif => ?_) <;> try (first | contradiction | (exfalso; omega))) | ((first | refine xT fun K hK => ?_ | refine xU fun K hK => ?_ | refine yB (fun K hK => ?_) (fun K hK => ?_) | refine xV ?_ | refine yA ?_ | refine xW ?_ | refine xX ?_ | refine xY ?_ | refine xZ ?_) <;> simp only [↓awpOps, ↓awpKeep, ↓awpKeepF, ↓aop, ↓aopQ, ↓abin, ↓aun, ↓onSome_some, ↓Kont_at, ↓KM_at, ↓KV_at, ↓KU_at, refId_row, Frame.ev, Frame.evs, Frame.evOr, Frame.put, Frame.keep, get_nil, get_cons, argFrame, resOf, fillA, Vals.len, Vals.get, Vals.set, Vals.app, Vals.sub, Vals.take, Vals.ofAgg_cons, Vals.ofList, Vals.toInts, Vals.toBools, Vals.toSls, Vals.toStrs, Vals.zeros, Nat.reduceBEq, Nat.reduceAdd, Nat.reduceEqDiff, cond_true, cond_false, Option.map_some, Option.map_none, List.length_cons, List.length_nil, List.replicate, List.set_cons_zero, List.set_cons_succ, Nat.reduceLT, Bool.not_true, Bool.not_false, Int.toNat_natCast, inR, Nat.zero_add, Int.toNat_zero, reduceCtorEq, IntKind.bits, List.nil_append, List.cons_append, Nat.add_zero, Nat.sub_zero, noughts_len, List.map_cons, List.map_nil, zp, zu]) | refine And.intro ?_ (fun hif => (hif trivial).elim) | (intro hif; try (first | contradiction | (exfalso; omega))))
    have := hK m (Grow.refl hwf _ _) (.inl ⟨rfl, by simp [Vals.len, marks]⟩)
    simpa using this
  · simp only [Vals.len] at hrow ⊢
    repeat' (first | refine xA ?_ | refine xB ?_ | refine xC ?_ | refine xD ?_ | refine xE ?_ | refine xF ?_ | refine xG ?_ | refine xH ?_ | refine xI rfl ?_ | refine xJ ?_ | refine xK ?_ | refine xL ?_ | refine xM rfl ?_ | refine xN rfl ?_ | refine xO rfl ?_ | (first | refine xP rfl (fun hif => ?_) (fun hif => ?_) | refine xQ rfl (fun hif => ?_) (fun hif => ?_) | refine xR rfl (fun hif => ?_) (fun hif => ?_) | refine xS rfl (fun hif => ?_) (fun hif => ?_)) <;> try (first | contradiction | (exfalso; omega)) | (refine hK _ _ ?_; clear hK K) | (refine And.intro (by first | omega | assumption | (constructor <;> omega)) ?_) | (refine And.intro (fun hif => ?_) (fun hif => ?_) <;> try (first | contradiction | (exfalso; omega))) | ((first | refine xT fun K hK => ?_ | refine xU fun K hK => ?_ | refine yB (fun K hK => ?_) (fun K hK => ?_) | refine xV ?_ | refine yA ?_ | refine xW ?_ | refine xX ?_ | refine xY ?_ | refine xZ ?_) <;> simp only [↓awpOps, ↓awpKeep, ↓awpKeepF, ↓aop, ↓aopQ, ↓abin, ↓aun, ↓onSome_some, ↓Kont_at, ↓KM_at, ↓KV_at, ↓KU_at, refId_row, Frame.ev, Frame.evs, Frame.evOr, Frame.put, Frame.keep, get_nil, get_cons, argFrame, resOf, fillA, Vals.len, Vals.get, Vals.set, Vals.app, Vals.sub, Vals.take, Vals.ofAgg_cons, Vals.ofList, Vals.toInts, Vals.toBools, Vals.toSls, Vals.toStrs, Vals.zeros, Nat.reduceBEq, Nat.reduceAdd, Nat.reduceEqDiff, cond_true, cond_false, Option.map_some, Option.map_none, List.length_cons, List.length_nil, List.replicate, List.set_cons_zero, List.set_cons_succ, Nat.reduceLT, Bool.not_true, Bool.not_false, Int.toNat_natCast, inR, Nat.zero_add, Int.toNat_zero, reduceCtorEq, IntKind.bits, List.nil_append, List.cons_append, Nat.add_zero, Nat.sub_zero, noughts_len, List.map_cons, List.map_nil, zp, zu]) | refine And.intro ?_ (fun hif => (hif trivial).elim) | (intro hif; try (first | contradiction | (exfalso; omega))))
    refine awp_loop ?_
    refine ALoop.by [0, 1, 5] (fun a : Nat × Heap => [(0, .one (.sl ⟨.row id, 0, l.length⟩)), (1, .one (.int .i64 (k + a.1))), (5, .one (.int .i64 a.1))]) (fun a => a.2) (fun a => a.1 ≤ l.length ∧ Grow f (f + 1) m a.2 ∧ a.2[id]? = some ⟨Ty.int, f, true, .ints .i64 (marks k a.1 ++ l.drop a.1)⟩) (fun a => l.length - a.1) (0, m) (by simp [Frame.keep, Frame.get]) rfl ⟨Nat.zero_le _, Grow.refl hwf _ _, by simpa [marks] using hrow⟩ ?_
    rintro ⟨i, m1⟩ ⟨hi, hg, hr⟩ K1 hK1
    simp only at hi hg hr
    repeat' (first | refine xA ?_ | refine xB ?_ | refine xC ?_ | refine xD ?_ | refine xE ?_ | refine xF ?_ | refine xG ?_ | refine xH ?_ | refine xI rfl ?_ | refine xJ ?_ | refine xK ?_ | refine xL ?_ | refine xM rfl ?_ | refine xN rfl ?_ | refine xO rfl ?_ | (first | refine xP rfl (fun hif => ?_) (fun hif => ?_) | refine xQ rfl (fun hif => ?_) (fun hif => ?_) | refine xR rfl (fun hif => ?_) (fun hif => ?_) | refine xS rfl (fun hif => ?_) (fun hif => ?_)) <;> try (first | contradiction | (exfalso; omega)) | (refine hK _ _ ?_; clear hK K) | refine st_row hg.wf hr (by simp only [Vals.len, List.length_append, marks_len, List.length_drop]; omega) rfl fun m2 g2 hl2 hr2 => ?_ | (refine And.intro (by first | omega | assumption | (constructor <;> omega)) ?_) | (refine And.intro (fun hif => ?_) (fun hif => ?_) <;> try (first | contradiction | (exfalso; omega))) | ((first | refine xT fun K hK => ?_ | refine xU fun K hK => ?_ | refine yB (fun K hK => ?_) (fun K hK => ?_) | refine xV ?_ | refine yA ?_ | refine xW ?_ | refine xX ?_ | refine xY ?_ | refine xZ ?_) <;> simp only [↓awpOps, ↓awpKeep, ↓awpKeepF, ↓aop, ↓aopQ, ↓abin, ↓aun, ↓onSome_some, ↓Kont_at, ↓KM_at, ↓KV_at, ↓KU_at, refId_row, Frame.ev, Frame.evs, Frame.evOr, Frame.put, Frame.keep, get_nil, get_cons, argFrame, resOf, fillA, Vals.len, Vals.get, Vals.set, Vals.app, Vals.sub, Vals.take, Vals.ofAgg_cons, Vals.ofList, Vals.toInts, Vals.toBools, Vals.toSls, Vals.toStrs, Vals.zeros, Nat.reduceBEq, Nat.reduceAdd, Nat.reduceEqDiff, cond_true, cond_false, Option.map_some, Option.map_none, List.length_cons, List.length_nil, List.replicate, List.set_cons_zero, List.set_cons_succ, Nat.reduceLT, Bool.not_true, Bool.not_false, Int.toNat_natCast, inR, Nat.zero_add, Int.toNat_zero, reduceCtorEq, IntKind.bits, List.nil_append, List.cons_append, Nat.add_zero, Nat.sub_zero, noughts_len, List.map_cons, List.map_nil, zp, zu]) | refine And.intro ?_ (fun hif => (hif trivial).elim) | (intro hif; try (first | contradiction | (exfalso; omega))))
    · refine hK1 (i + 1, m2) _ _ (by simp only [Frame.keep, Frame.get, Nat.reduceBEq, cond_true, cond_false, Int.natCast_add, Int.add_assoc]; rfl) rfl ⟨by simp only; omega, hg.trans g2, ?_⟩ (by simp only; omega)
      simp only
      rw [hr2, marks_set k l (by omega)]
    · obtain rfl : i = l.length := by omega
      rw [List.drop_length, List.append_nil] at hr
      exact hK m1 (hg.mono ha (by omega)) (.inr ⟨id, f, ha, hb, by simp [Vals.len, marks_len], hr⟩)

theorem laws_heldIntS (s : SV) (n : Nat) (k : Int) (m : Heap) (hs : IsInts .i64 m s (marks k n)) (hk : 0 ≤ k ∧ k ≤ 1000000000) (hn : n ≤ 1048576) : AQuiet Try.prog F.laws_heldIntS [.one (.sl s), .one (.int .i64 k)] m (.one (.int .i64 (k + n))) := by
  obtain ⟨ref, off, len⟩ := s
  obtain rfl : len = (marks k n).length := hs.1
  rw [marks_len] at hs ⊢
  have hat : ∀ i, i < n → m.at ref.id (off + i) = some (.int .i64 (k + i)) := fun i hi => by rw [hs.2 i (by rw [marks_len]; exact hi), marks_get k hi]
  refine aqn T.laws_heldIntS (by rfl) ?_
  repeat' (first | refine xA ?_ | refine xB ?_ | refine xC ?_ | refine xD ?_ | refine xE ?_ | refine xF ?_ | refine xG ?_ | refine xH ?_ | refine xI rfl ?_ | refine xJ ?_ | refine xK ?_ | refine xL ?_ | refine xM rfl ?_ | refine xN rfl ?_ | refine xO rfl ?_ | (first | refine xP rfl (fun hif => ?_) (fun hif => ?_) | refine xQ rfl (fun hif => ?_) (fun hif => ?_) | refine xR rfl (fun hif => ?_) (fun hif => ?_) | refine xS rfl (fun hif => ?_) (fun hif => ?_)) <;> try (first | contradiction | (exfalso; omega)) | (refine hK _ _ ?_; clear hK K) | (refine And.intro (by first | omega | assumption | (constructor <;> omega)) ?_) | (refine And.intro (fun hif => ?_) (fun hif => ?_) <;> try (first | contradiction | (exfalso; omega))) | ((first | refine xT fun K hK => ?_ | refine xU fun K hK => ?_ | refine yB (fun K hK => ?_) (fun K hK => ?_) | refine xV ?_ | refine yA ?_ | refine xW ?_ | refine xX ?_ | refine xY ?_ | refine xZ ?_) <;> simp only [↓awpOps, ↓awpKeep, ↓awpKeepF, ↓aop, ↓aopQ, ↓abin, ↓aun, ↓onSome_some, ↓Kont_at, ↓KM_at, ↓KV_at, ↓KU_at, refId_row, Frame.ev, Frame.evs, Frame.evOr, Frame.put, Frame.keep, get_nil, get_cons, argFrame, resOf, fillA, Vals.len, Vals.get, Vals.set, Vals.app, Vals.sub, Vals.take, Vals.ofAgg_cons, Vals.ofList, Vals.toInts, Vals.toBools, Vals.toSls, Vals.toStrs, Vals.zeros, Nat.reduceBEq, Nat.reduceAdd, Nat.reduceEqDiff, cond_true, cond_false, Option.map_some, Option.map_none, List.length_cons, List.length_nil, List.replicate, List.set_cons_zero, List.set_cons_succ, Nat.reduceLT, Bool.not_true, Bool.not_false, Int.toNat_natCast, inR, Nat.zero_add, Int.toNat_zero, reduceCtorEq, IntKind.bits, List.nil_append, List.cons_append, Nat.add_zero, Nat.sub_zero, noughts_len, List.map_cons, List.map_nil, zp, zu]) | refine And.intro ?_ (fun hif => (hif trivial).elim) | (intro hif; try (first | contradiction | (exfalso; omega))))
  refine awp_loop ?_
  refine ALoop.by [0, 1, 5] (fun a : Nat × Int => [(0, .one (.sl ⟨ref, off, n⟩)), (1, .one (.int .i64 a.2)), (5, .one (.int .i64 a.1))]) (fun _ => m) (fun a => a.1 ≤ n ∧ a.2 = k + a.1) (fun a => n - a.1) (0, k) rfl rfl ⟨Nat.zero_le _, by simp⟩ ?_
  rintro ⟨i, c⟩ ⟨hi, hc⟩ K1 hK1
  simp only at hi hc
  repeat' (first | refine xA ?_ | refine xB ?_ | refine xC ?_ | refine xD ?_ | refine xE ?_ | refine xF ?_ | refine xG ?_ | refine xH ?_ | refine xI rfl ?_ | refine xJ ?_ | refine xK ?_ | refine xL ?_ | refine xM rfl ?_ | refine xN rfl ?_ | refine xO rfl ?_ | (first | refine xP rfl (fun hif => ?_) (fun hif => ?_) | refine xQ rfl (fun hif => ?_) (fun hif => ?_) | refine xR rfl (fun hif => ?_) (fun hif => ?_) | refine xS rfl (fun hif => ?_) (fun hif => ?_)) <;> try (first | contradiction | (exfalso; omega)) | (refine hK _ _ ?_; clear hK K) | refine onSome_of (hat _ (by omega)) ?_ | (refine And.intro (by first | omega | assumption | (constructor <;> omega)) ?_) | (refine And.intro (fun hif => ?_) (fun hif => ?_) <;> try (first | contradiction | (exfalso; omega))) | ((first | refine xT fun K hK => ?_ | refine xU fun K hK => ?_ | refine yB (fun K hK => ?_) (fun K hK => ?_) | refine xV ?_ | refine yA ?_ | refine xW ?_ | refine xX ?_ | refine xY ?_ | refine xZ ?_) <;> simp only [↓awpOps, ↓awpKeep, ↓awpKeepF, ↓aop, ↓aopQ, ↓abin, ↓aun, ↓onSome_some, ↓Kont_at, ↓KM_at, ↓KV_at, ↓KU_at, refId_row, Frame.ev, Frame.evs, Frame.evOr, Frame.put, Frame.keep, get_nil, get_cons, argFrame, resOf, fillA, Vals.len, Vals.get, Vals.set, Vals.app, Vals.sub, Vals.take, Vals.ofAgg_cons, Vals.ofList, Vals.toInts, Vals.toBools, Vals.toSls, Vals.toStrs, Vals.zeros, Nat.reduceBEq, Nat.reduceAdd, Nat.reduceEqDiff, cond_true, cond_false, Option.map_some, Option.map_none, List.length_cons, List.length_nil, List.replicate, List.set_cons_zero, List.set_cons_succ, Nat.reduceLT, Bool.not_true, Bool.not_false, Int.toNat_natCast, inR, Nat.zero_add, Int.toNat_zero, reduceCtorEq, IntKind.bits, List.nil_append, List.cons_append, Nat.add_zero, Nat.sub_zero, noughts_len, List.map_cons, List.map_nil, zp, zu]) | refine And.intro ?_ (fun hif => (hif trivial).elim) | (intro hif; try (first | contradiction | (exfalso; omega))))
  all_goals first
    | exact hK1 (i + 1, c + 1) _ _ rfl rfl ⟨by simp only; omega, by simp only; omega⟩ (by simp only; omega)
    | (refine ⟨?_, List.prefix_rfl⟩; congr 2; omega)

theorem laws_toIntS_o {s : SV} {l : List Int} {m : Heap} {K : XV → Heap → Prop} (hwf : m.wf) (hs : IsInts .i64 m s l) (hl : l.length ≤ 1048576)
    (hK : ∀ (s' : SV) (m' : Heap), Grow 0 0 m m' → Obj Ty.int m.length m'.length m' s' (.ints .i64 l) → K (.one (.sl s')) m') : ACalls Try.prog F.laws_toIntS [.one (.sl s)] m K :=
  laws_toIntS hs hl (hK _ _ (Grow.push hwf _ _ _) (obj_new _ _ rfl (Nat.le_refl _) (by simp)))

theorem laws_eqIntS_t (s t : SV) (l : List Int) (m : Heap) (hs : IsInts .i64 m s l) (ht : IsInts .i64 m t l) (hl : l.length ≤ 1048576) : AQuiet Try.prog F.laws_eqIntS [.one (.sl s), .one (.sl t)] m (.one (.bool true)) :=
  (laws_eqIntS s t l l m hs ht hl).eq (by rw [decide_eq_true rfl])

theorem args1 {m : Heap} {a : Kd} {xs : List XV} (h : ArgsAre m [a] xs) : ∃ x, xs = [x] ∧ ArgIs m a x := by
  match xs, h with
  | [x], h => exact ⟨x, rfl, h.1⟩
theorem args2 {m : Heap} {a b : Kd} {xs : List XV} (h : ArgsAre m [a, b] xs) : ∃ x y, xs = [x, y] ∧ ArgIs m a x ∧ ArgIs m b y := by
  match xs, h with
  | [x, y], h => exact ⟨x, y, rfl, h.1, h.2.1⟩
theorem args3 {m : Heap} {a b c : Kd} {xs : List XV} (h : ArgsAre m [a, b, c] xs) : ∃ x y z, xs = [x, y, z] ∧ ArgIs m a x ∧ ArgIs m b y ∧ ArgIs m c z := by
  match xs, h with
  | [x, y, z], h => exact ⟨x, y, z, rfl, h.1, h.2.1, h.2.2.1⟩
theorem args4 {m : Heap} {a b c d : Kd} {xs : List XV} (h : ArgsAre m [a, b, c, d] xs) : ∃ x y z u, xs = [x, y, z, u] ∧ ArgIs m a x ∧ ArgIs m b y ∧ ArgIs m c z ∧ ArgIs m d u := by
  match xs, h with
  | [x, y, z, u], h => exact ⟨x, y, z, u, rfl, h.1, h.2.1, h.2.2.1, h.2.2.2.1⟩

end Go.Abs

/- Lists of wires in new memory. Own work; no condition. -/
set_option maxRecDepth 100000
set_option linter.unusedSimpArgs false
set_option linter.unusedVariables false
namespace Go.Abs
open Go.Proofs
attribute [local irreducible] awp awpOps awpKeep KeepK awpKeepF KeepF aloop ALoop ACalls ACallq AQuiet retPost retPostA AExit.thn AExit.blk aApp aSt aStA

/-- The family of the row in which a slice lies. -/
def famAt (m : Heap) (s : SV) : Option Nat := (m[s.ref.id]?).map Row.fam
theorem famAt_row {m : Heap} {id o n : Nat} {r : Row} (h : m[id]? = some r) : famAt m ⟨.row id, o, n⟩ = some r.fam := by simp only [famAt, Ref.id, h, Option.map_some]

/-- Lists of numbers, each in a row of a family of its own, in a..b. -/
def Rows1 (a b : Nat) (m : Heap) (svs : List SV) (ll : List (List Int)) (no : Nat) : Prop :=
  svs.length = ll.length ∧ ∀ i, i < ll.length → ∃ id f, a ≤ f ∧ f < b ∧ f ≠ no ∧ svs.getD i SV.nil = ⟨.row id, 0, (ll.getD i []).length⟩ ∧ m[id]? = some ⟨Ty.int, f, true, .ints .i64 (ll.getD i [])⟩ ∧ ∀ j, j < i → famAt m (svs.getD j SV.nil) ≠ some f

def Lists (a b : Nat) (m : Heap) (s : SV) (ll : List (List Int)) : Prop := ∃ svs f, Acc Ty.Sl_int f m s (.sls svs) ∧ (s = SV.nil ∨ a ≤ f ∧ f < b) ∧ Rows1 a b m svs ll f

theorem Rows1.fam_at {a b no : Nat} {m m' : Heap} {svs : List SV} {ll : List (List Int)} (h : Rows1 a b m svs ll no) {j : Nat} (hj : j < ll.length) (hk : ∀ (id : Nat) (r : Row), m[id]? = some r → a ≤ r.fam → r.fam < b → r.fam ≠ no → m'[id]? = some r) :
    ∃ g, a ≤ g ∧ g < b ∧ g ≠ no ∧ famAt m (svs.getD j SV.nil) = some g ∧ famAt m' (svs.getD j SV.nil) = some g := by
  obtain ⟨id, f, h1, h2, h3, h4, h5, _⟩ := h.2 j hj
  rw [h4]
  exact ⟨f, h1, h2, h3, famAt_row h5, famAt_row (hk id _ h5 h1 h2 h3)⟩

theorem Rows1.keep {a b a' b' no no' : Nat} {m m' : Heap} {svs : List SV} {ll : List (List Int)} (h : Rows1 a b m svs ll no) (hk : ∀ (id : Nat) (r : Row), m[id]? = some r → a ≤ r.fam → r.fam < b → r.fam ≠ no → m'[id]? = some r) (ha : a' ≤ a) (hb : b ≤ b') (hno : no' = no ∨ b ≤ no' ∨ no' < a) : Rows1 a' b' m' svs ll no' :=
  ⟨h.1, fun i hi => by
    obtain ⟨id, f, h1, h2, h3, h4, h5, h6⟩ := h.2 i hi
    refine ⟨id, f, by omega, by omega, by omega, h4, hk id _ h5 h1 h2 h3, fun j hj => ?_⟩
    obtain ⟨g, _, _, _, g4, g5⟩ := h.fam_at (j := j) (by omega) hk
    rw [g5, ← g4]
    exact h6 j hj⟩

theorem Rows1.pre {a b a' b' no : Nat} {m m' : Heap} {svs : List SV} {ll : List (List Int)} (h : Rows1 a b m svs ll no) (hp : m <+: m') (ha : a' ≤ a) (hb : b ≤ b') : Rows1 a' b' m' svs ll no :=
  h.keep (fun _ _ hr _ _ _ => row_prefix hp hr) ha hb (.inl rfl)

theorem Acc.obj' {e : TypeId} {f a b : Nat} {m : Heap} {s : SV} {v : Vals} (h : Acc e f m s v) (hf : s = SV.nil ∨ a ≤ f ∧ f < b) : Obj e a b m s v := by
  rcases h with h | ⟨id, h3, h4, _⟩
  · exact .inl h
  · rcases hf with hf | hf
    · rw [hf] at h3; cases h3
    · exact .inr ⟨id, f, hf.1, hf.2, h3, h4⟩

theorem Lists.len {a b : Nat} {m : Heap} {s : SV} {ll : List (List Int)} (h : Lists a b m s ll) : s.len = ll.length := by
  obtain ⟨svs, f, h1, h2, h4, _⟩ := h
  rw [(h1.obj' h2).len, ← h4]; rfl

theorem Lists.rows {a b : Nat} {m : Heap} {s : SV} {ll : List (List Int)} (h : Lists a b m s ll) : IsRows .i64 m s ll := by
  obtain ⟨svs, f, h1, h2, h4, h5⟩ := h
  refine ⟨svs, (h1.obj' h2).isSls, h4, fun i hi => ?_⟩
  obtain ⟨id, g0, _, _, _, g4, g5, _⟩ := h5 i hi
  rw [g4]
  refine ⟨rfl, fun j hj => ?_⟩
  rw [Nat.zero_add]
  exact at_row g5 hj

/-- A list of lists to which is appended. -/
def LAcc (n0 : Nat) (m : Heap) (s : SV) (ll : List (List Int)) : Prop := ∃ svs f, Acc Ty.Sl_int f m s (.sls svs) ∧ (s = SV.nil ∨ n0 ≤ f ∧ f < m.length) ∧ Rows1 n0 m.length m svs ll f

theorem lacc_nil (n0 : Nat) (m : Heap) : LAcc n0 m SV.nil [] := ⟨[], 0, .inl ⟨rfl, rfl⟩, .inl rfl, rfl, fun i hi => absurd hi (Nat.not_lt_zero _)⟩
theorem lacc_new {m : Heap} (hwf : m.wf) {n0 : Nat} (hn : n0 ≤ m.length) : LAcc n0 (m ++ [⟨Ty.Sl_int, m.length, true, .sls []⟩]) ⟨.row m.length, 0, 0⟩ [] :=
  ⟨[], m.length, acc_new hwf _ _ rfl, .inr ⟨hn, by simp⟩, rfl, fun i hi => absurd hi (Nat.not_lt_zero _)⟩

theorem LAcc.lists {n0 : Nat} {m : Heap} {s : SV} {ll : List (List Int)} (h : LAcc n0 m s ll) : Lists n0 m.length m s ll := by
  obtain ⟨svs, f, h1, h2, h3⟩ := h
  exact ⟨svs, f, h1, h2, h3⟩

/-- append(list, []int{..}). -/
theorem app_lists {n0 : Nat} {m : Heap} {s : SV} {ll : List (List Int)} {l : List Int} {K : XV → Heap → Prop} (hn : n0 ≤ m.length) (hwf : m.wf) (h : LAcc n0 m s ll) (hll : ll.length < 1000000)
    (hK : ∀ (s' : SV) (m' : Heap), m <+: m' → Grow n0 m.length m m' → LAcc n0 m' s' (ll ++ [l]) → K (.one (.sl s')) m') :
    aApp Ty.Sl_int s ⟨.row (List.length (m ++ [(⟨Ty.int, m.length, true, .ints .i64 l⟩ : Row)])), 0, 1⟩ (m ++ [⟨Ty.int, m.length, true, .ints .i64 l⟩] ++ [⟨Ty.Sl_int, List.length (m ++ [(⟨Ty.int, m.length, true, .ints .i64 l⟩ : Row)]), true, .sls [⟨.row m.length, 0, l.length⟩]⟩]) K := by
  obtain ⟨svs, f, hA, hf, hR⟩ := h
  have g1 := Grow.push hwf Ty.int true (.ints .i64 l)
  have hA1 : Acc Ty.Sl_int f (m ++ [⟨Ty.int, m.length, true, .ints .i64 l⟩]) s (.sls svs) := by
    rcases hA with h | ⟨id, h1, h2, h3⟩
    · exact .inl h
    · exact Acc.grow0 (show Acc Ty.Sl_int f m s (.sls svs) from .inr ⟨id, h1, h2, h3⟩) g1 (by have := hwf id _ h2; have := get_lt h2; simp only at *; omega)
  refine app_sl g1.wf hA1 (by rw [hR.1]; omega) fun s' m' f' hp hg ha hf' hl => ?_
  have hp1 : m <+: m' := (prefix_push _ _).trans hp
  have hpl := hp.length_le
  rw [List.length_append, List.length_cons, List.length_nil] at hf' hpl
  have hfn : n0 ≤ f' ∧ (f' = f ∧ f < m.length ∨ m.length + 1 ≤ f') := by
    rcases hf' with ⟨rfl, h⟩ | h
    · rcases hf with h' | h'
      · exact absurd h' h
      · exact ⟨h'.1, .inl ⟨rfl, h'.2⟩⟩
    · exact ⟨by omega, .inr (by omega)⟩
  have hgr : Grow n0 m.length m m' := (g1.any _ _).trans (hg n0 m.length hf)
  refine hK s' m' hp1 hgr ⟨svs ++ [⟨.row m.length, 0, l.length⟩], f', ha, .inr ⟨hfn.1, hl⟩, by simp [hR.1], fun i hi => ?_⟩
  rw [getD_push, getD_push, hR.1]
  rw [List.length_append, List.length_cons, List.length_nil] at hi
  by_cases hlt : i < ll.length
  · rw [if_pos hlt, if_pos hlt]
    obtain ⟨id, g, h1, h2, h3, h4, h5, h6⟩ := hR.2 i hlt
    refine ⟨id, g, h1, by omega, ?_, h4, row_prefix hp1 h5, fun j hj => ?_⟩
    · rcases hfn.2 with ⟨rfl, _⟩ | h
      · exact h3
      · omega
    · rw [getD_push, hR.1, if_pos (by omega)]
      obtain ⟨gj, _, _, _, k4, k5⟩ := hR.fam_at (j := j) (m' := m') (by omega) (fun _ _ hr _ _ _ => row_prefix hp1 hr)
      rw [k5, ← k4]
      exact h6 j hj
  · rw [if_neg hlt, if_neg hlt, if_pos (by omega), if_pos (by omega)]
    refine ⟨m.length, m.length, hn, by omega, ?_, rfl, row_prefix hp (get_last _ _), fun j hj => ?_⟩
    · rcases hfn.2 with ⟨rfl, h⟩ | h <;> omega
    · rw [getD_push, hR.1, if_pos (by omega)]
      obtain ⟨gj, _, k2, _, k4, k5⟩ := hR.fam_at (j := j) (m' := m') (by omega) (fun _ _ hr _ _ _ => row_prefix hp1 hr)
      rw [k5]
      intro h
      injection h with e
      omega

theorem impl_WireList_g {s : SV} {net : List Int} {m : Heap} {K : XV → Heap → Prop} (hs : IsInts .i64 m s net) (hok : NetOk net)
    (hK : ∀ (s' : SV) (m' : Heap), Grow 0 0 m m' → Lists m.length m'.length m' s' (wires net) → K (.one (.sl s')) m') : ACalls Try.prog F.impl_WireList [.one (.sl s)] m K := by
  obtain ⟨ref, off, len⟩ := s
  obtain rfl : len = net.length := hs.1
  refine ACalls.wf fun hwf => ?_
  refine afn T.impl_WireList (by rfl) ?_
  have h6 := hok.six
  have hp6 := pow_le6 h6
  repeat' (first | refine xA ?_ | refine xB ?_ | refine xC ?_ | refine xD ?_ | refine xE ?_ | refine xF ?_ | refine xG ?_ | refine xH ?_ | refine xI rfl ?_ | refine xJ ?_ | refine xK ?_ | refine xL ?_ | refine xM rfl ?_ | refine xN rfl ?_ | refine xO rfl ?_ | (first | refine xP rfl (fun hif => ?_) (fun hif => ?_) | refine xQ rfl (fun hif => ?_) (fun hif => ?_) | refine xR rfl (fun hif => ?_) (fun hif => ?_) | refine xS rfl (fun hif => ?_) (fun hif => ?_)) <;> try (first | contradiction | (exfalso; omega)) | (refine hK _ _ ?_; clear hK K) | refine AQuiet.call (impl_NetOk_b true hs (decide_eq_true hok)) trivial ?_ | (refine And.intro (by first | omega | assumption | (constructor <;> omega)) ?_) | (refine And.intro (fun hif => ?_) (fun hif => ?_) <;> try (first | contradiction | (exfalso; omega))) | ((first | refine xT fun K hK => ?_ | refine xU fun K hK => ?_ | refine yB (fun K hK => ?_) (fun K hK => ?_) | refine xV ?_ | refine yA ?_ | refine xW ?_ | refine xX ?_ | refine xY ?_ | refine xZ ?_) <;> simp only [↓awpOps, ↓awpKeep, ↓awpKeepF, ↓aop, ↓aopQ, ↓abin, ↓aun, ↓onSome_some, ↓Kont_at, ↓KM_at, ↓KV_at, ↓KU_at, refId_row, Frame.ev, Frame.evs, Frame.evOr, Frame.put, Frame.keep, get_nil, get_cons, argFrame, resOf, fillA, Vals.len, Vals.get, Vals.set, Vals.app, Vals.sub, Vals.take, Vals.ofAgg_cons, Vals.ofList, Vals.toInts, Vals.toBools, Vals.toSls, Vals.toStrs, Vals.zeros, Nat.reduceBEq, Nat.reduceAdd, Nat.reduceEqDiff, cond_true, cond_false, Option.map_some, Option.map_none, List.length_cons, List.length_nil, List.replicate, List.set_cons_zero, List.set_cons_succ, Nat.reduceLT, Bool.not_true, Bool.not_false, Int.toNat_natCast, inR, Nat.zero_add, Int.toNat_zero, reduceCtorEq, IntKind.bits, List.nil_append, List.cons_append, Nat.add_zero, Nat.sub_zero, noughts_len, List.map_cons, List.map_nil, zp, zu]) | refine And.intro ?_ (fun hif => (hif trivial).elim) | (intro hif; try (first | contradiction | (exfalso; omega))))
  refine awp_loop ?_
  refine ALoop.by [0, 3, 4] (fun a : Nat × SV × Heap => [(0, .one (.sl ⟨ref, off, net.length⟩)), (3, .one (.sl a.2.1)), (4, .one (.int .i64 a.1))]) (fun a => a.2.2) (fun a => a.1 ≤ net.length ∧ m <+: a.2.2 ∧ Grow m.length a.2.2.length m a.2.2 ∧ LAcc m.length a.2.2 a.2.1 (wiresTo net a.1)) (fun a => net.length - a.1) (0, SV.nil, m) rfl rfl ⟨Nat.zero_le _, List.prefix_rfl, Grow.refl hwf _ _, lacc_nil _ _⟩ ?_
  rintro ⟨k, t, m1⟩ ⟨hk, hm1, hg1, hT⟩ K1 hK1
  simp only at hk hm1 hg1 hT
  repeat' (first | refine xA ?_ | refine xB ?_ | refine xC ?_ | refine xD ?_ | refine xE ?_ | refine xF ?_ | refine xG ?_ | refine xH ?_ | refine xI rfl ?_ | refine xJ ?_ | refine xK ?_ | refine xL ?_ | refine xM rfl ?_ | refine xN rfl ?_ | refine xO rfl ?_ | (first | refine xP rfl (fun hif => ?_) (fun hif => ?_) | refine xQ rfl (fun hif => ?_) (fun hif => ?_) | refine xR rfl (fun hif => ?_) (fun hif => ?_) | refine xS rfl (fun hif => ?_) (fun hif => ?_)) <;> try (first | contradiction | (exfalso; omega)) | (refine hK _ _ ?_; clear hK K) | (refine And.intro (by first | omega | assumption | (constructor <;> omega)) ?_) | (refine And.intro (fun hif => ?_) (fun hif => ?_) <;> try (first | contradiction | (exfalso; omega))) | ((first | refine xT fun K hK => ?_ | refine xU fun K hK => ?_ | refine yB (fun K hK => ?_) (fun K hK => ?_) | refine xV ?_ | refine yA ?_ | refine xW ?_ | refine xX ?_ | refine xY ?_ | refine xZ ?_) <;> simp only [↓awpOps, ↓awpKeep, ↓awpKeepF, ↓aop, ↓aopQ, ↓abin, ↓aun, ↓onSome_some, ↓Kont_at, ↓KM_at, ↓KV_at, ↓KU_at, refId_row, Frame.ev, Frame.evs, Frame.evOr, Frame.put, Frame.keep, get_nil, get_cons, argFrame, resOf, fillA, Vals.len, Vals.get, Vals.set, Vals.app, Vals.sub, Vals.take, Vals.ofAgg_cons, Vals.ofList, Vals.toInts, Vals.toBools, Vals.toSls, Vals.toStrs, Vals.zeros, Nat.reduceBEq, Nat.reduceAdd, Nat.reduceEqDiff, cond_true, cond_false, Option.map_some, Option.map_none, List.length_cons, List.length_nil, List.replicate, List.set_cons_zero, List.set_cons_succ, Nat.reduceLT, Bool.not_true, Bool.not_false, Int.toNat_natCast, inR, Nat.zero_add, Int.toNat_zero, reduceCtorEq, IntKind.bits, List.nil_append, List.cons_append, Nat.add_zero, Nat.sub_zero, noughts_len, List.map_cons, List.map_nil, zp, zu]) | refine And.intro ?_ (fun hif => (hif trivial).elim) | (intro hif; try (first | contradiction | (exfalso; omega))))
  · refine awp_loop ?_
    have hlt : k < net.length := by omega
    refine ALoop.by [0, 3, 4, 5] (fun a : Nat × SV × Heap => [(0, .one (.sl ⟨ref, off, net.length⟩)), (3, .one (.sl a.2.1)), (4, .one (.int .i64 k)), (5, .one (.int .i64 a.1))]) (fun a => a.2.2) (fun a => a.1 ≤ net.length ∧ k < a.1 ∧ m <+: a.2.2 ∧ Grow m.length a.2.2.length m a.2.2 ∧ LAcc m.length a.2.2 a.2.1 (wiresTo net k ++ wiresIn net k a.1)) (fun a => net.length - a.1) (k + 1, t, m1) rfl rfl ⟨by simp only; omega, by simp only; omega, hm1, hg1, by rw [wiresIn_nil net k _ (Nat.le_refl _), List.append_nil]; exact hT⟩ ?_
    rintro ⟨j, t2, m2⟩ ⟨hj, hkj, hm2, hg2, hT2⟩ K2 hK2
    simp only at hj hkj hm2 hg2 hT2
    have hs2 := hs.pre hm2
    have hl1 := wiresTo_len net h6 k
    have hl2 := wiresIn_len net k j
    have hl0 : m.length ≤ m2.length := hm2.length_le
    have hbl : (wiresTo net k ++ wiresIn net k j).length < 1000000 := by rw [List.length_append]; omega
    repeat' (first | refine xA ?_ | refine xB ?_ | refine xC ?_ | refine xD ?_ | refine xE ?_ | refine xF ?_ | refine xG ?_ | refine xH ?_ | refine xI rfl ?_ | refine xJ ?_ | refine xK ?_ | refine xL ?_ | refine xM rfl ?_ | refine xN rfl ?_ | refine xO rfl ?_ | (first | refine xP rfl (fun hif => ?_) (fun hif => ?_) | refine xQ rfl (fun hif => ?_) (fun hif => ?_) | refine xR rfl (fun hif => ?_) (fun hif => ?_) | refine xS rfl (fun hif => ?_) (fun hif => ?_)) <;> try (first | contradiction | (exfalso; omega)) | (refine hK _ _ ?_; clear hK K) | refine onSome_of (hs2.2 _ (by omega)) ?_ | refine AQuiet.call (impl_hasPlace _ j (hok.low k hlt) (by have := hok.high k hlt; omega) (by omega) _) trivial ?_ | refine app_lists hl0 hg2.wf hT2 hbl fun s' m' hp3 hg3 hT3 => ?_ | (refine And.intro (by first | omega | assumption | (constructor <;> omega)) ?_) | (refine And.intro (fun hif => ?_) (fun hif => ?_) <;> try (first | contradiction | (exfalso; omega))) | ((first | refine xT fun K hK => ?_ | refine xU fun K hK => ?_ | refine yB (fun K hK => ?_) (fun K hK => ?_) | refine xV ?_ | refine yA ?_ | refine xW ?_ | refine xX ?_ | refine xY ?_ | refine xZ ?_) <;> simp only [↓awpOps, ↓awpKeep, ↓awpKeepF, ↓aop, ↓aopQ, ↓abin, ↓aun, ↓onSome_some, ↓Kont_at, ↓KM_at, ↓KV_at, ↓KU_at, refId_row, Frame.ev, Frame.evs, Frame.evOr, Frame.put, Frame.keep, get_nil, get_cons, argFrame, resOf, fillA, Vals.len, Vals.get, Vals.set, Vals.app, Vals.sub, Vals.take, Vals.ofAgg_cons, Vals.ofList, Vals.toInts, Vals.toBools, Vals.toSls, Vals.toStrs, Vals.zeros, Nat.reduceBEq, Nat.reduceAdd, Nat.reduceEqDiff, cond_true, cond_false, Option.map_some, Option.map_none, List.length_cons, List.length_nil, List.replicate, List.set_cons_zero, List.set_cons_succ, Nat.reduceLT, Bool.not_true, Bool.not_false, Int.toNat_natCast, inR, Nat.zero_add, Int.toNat_zero, reduceCtorEq, IntKind.bits, List.nil_append, List.cons_append, Nat.add_zero, Nat.sub_zero, noughts_len, List.map_cons, List.map_nil, zp, zu]) | refine And.intro ?_ (fun hif => (hif trivial).elim) | (intro hif; try (first | contradiction | (exfalso; omega))))
    · refine hK2 (j + 1, s', m') _ _ rfl rfl ⟨by simp only; omega, by simp only; omega, hm2.trans hp3, (hg2.mono (Nat.le_refl _) hp3.length_le).trans (hg3.mono (Nat.le_refl _) hp3.length_le), ?_⟩ (by simp only; omega)
      simp only [wiresIn]
      rw [if_pos ⟨hkj, hif⟩, ← List.append_assoc]
      exact hT3
    · refine hK2 (j + 1, t2, m2) _ _ rfl rfl ⟨by simp only; omega, by simp only; omega, hm2, hg2, ?_⟩ (by simp only; omega)
      simp only [wiresIn]
      rw [if_neg fun h => by rw [h.2] at hif; exact Bool.noConfusion hif]
      exact hT2
    · refine hK1 (k + 1, t2, m2) _ _ rfl rfl ⟨by simp only; omega, hm2, hg2, ?_⟩ (by simp only; omega)
      obtain rfl : j = net.length := by omega
      exact hT2
  · obtain rfl : k = net.length := by omega
    exact hK t m1 (grow00 hm1 hg1) hT.lists

theorem spec_l1Wires_g {s : SV} {net : List Int} {m : Heap} {K : XV → Heap → Prop} (hs : IsInts .i64 m s net) (hok : NetOk net)
    (hK : ∀ (s' : SV) (m' : Heap), Grow 0 0 m m' → Lists m.length m'.length m' s' (wires net) → K (.one (.sl s')) m') : ACalls Try.prog F.spec_l1Wires [.one (.sl s)] m K := by
  obtain ⟨ref, off, len⟩ := s
  obtain rfl : len = net.length := hs.1
  refine ACalls.wf fun hwf => ?_
  refine afn T.spec_l1Wires (by rfl) ?_
  have h6 := hok.six
  have hp6 := pow_le6 h6
  repeat' (first | refine xA ?_ | refine xB ?_ | refine xC ?_ | refine xD ?_ | refine xE ?_ | refine xF ?_ | refine xG ?_ | refine xH ?_ | refine xI rfl ?_ | refine xJ ?_ | refine xK ?_ | refine xL ?_ | refine xM rfl ?_ | refine xN rfl ?_ | refine xO rfl ?_ | (first | refine xP rfl (fun hif => ?_) (fun hif => ?_) | refine xQ rfl (fun hif => ?_) (fun hif => ?_) | refine xR rfl (fun hif => ?_) (fun hif => ?_) | refine xS rfl (fun hif => ?_) (fun hif => ?_)) <;> try (first | contradiction | (exfalso; omega)) | (refine hK _ _ ?_; clear hK K) | (refine And.intro (by first | omega | assumption | (constructor <;> omega)) ?_) | (refine And.intro (fun hif => ?_) (fun hif => ?_) <;> try (first | contradiction | (exfalso; omega))) | ((first | refine xT fun K hK => ?_ | refine xU fun K hK => ?_ | refine yB (fun K hK => ?_) (fun K hK => ?_) | refine xV ?_ | refine yA ?_ | refine xW ?_ | refine xX ?_ | refine xY ?_ | refine xZ ?_) <;> simp only [↓awpOps, ↓awpKeep, ↓awpKeepF, ↓aop, ↓aopQ, ↓abin, ↓aun, ↓onSome_some, ↓Kont_at, ↓KM_at, ↓KV_at, ↓KU_at, refId_row, Frame.ev, Frame.evs, Frame.evOr, Frame.put, Frame.keep, get_nil, get_cons, argFrame, resOf, fillA, Vals.len, Vals.get, Vals.set, Vals.app, Vals.sub, Vals.take, Vals.ofAgg_cons, Vals.ofList, Vals.toInts, Vals.toBools, Vals.toSls, Vals.toStrs, Vals.zeros, Nat.reduceBEq, Nat.reduceAdd, Nat.reduceEqDiff, cond_true, cond_false, Option.map_some, Option.map_none, List.length_cons, List.length_nil, List.replicate, List.set_cons_zero, List.set_cons_succ, Nat.reduceLT, Bool.not_true, Bool.not_false, Int.toNat_natCast, inR, Nat.zero_add, Int.toNat_zero, reduceCtorEq, IntKind.bits, List.nil_append, List.cons_append, Nat.add_zero, Nat.sub_zero, noughts_len, List.map_cons, List.map_nil, zp, zu]) | refine And.intro ?_ (fun hif => (hif trivial).elim) | (intro hif; try (first | contradiction | (exfalso; omega))))
  refine awp_loop ?_
  have hG0 := Grow.push hwf Ty.Sl_int true (.sls [])
  refine ALoop.by [0, 3, 4] (fun a : Nat × SV × Heap => [(0, .one (.sl ⟨ref, off, net.length⟩)), (3, .one (.sl a.2.1)), (4, .one (.int .i64 a.1))]) (fun a => a.2.2) (fun a => a.1 ≤ net.length ∧ m <+: a.2.2 ∧ Grow m.length a.2.2.length m a.2.2 ∧ LAcc m.length a.2.2 a.2.1 (wiresTo net a.1)) (fun a => net.length - a.1) (0, ⟨.row m.length, 0, 0⟩, m ++ [⟨Ty.Sl_int, m.length, true, .sls []⟩]) rfl rfl ⟨Nat.zero_le _, prefix_push _ _, hG0.any _ _, lacc_new hwf (Nat.le_refl _)⟩ ?_
  rintro ⟨k, t, m1⟩ ⟨hk, hm1, hg1, hT⟩ K1 hK1
  simp only at hk hm1 hg1 hT
  repeat' (first | refine xA ?_ | refine xB ?_ | refine xC ?_ | refine xD ?_ | refine xE ?_ | refine xF ?_ | refine xG ?_ | refine xH ?_ | refine xI rfl ?_ | refine xJ ?_ | refine xK ?_ | refine xL ?_ | refine xM rfl ?_ | refine xN rfl ?_ | refine xO rfl ?_ | (first | refine xP rfl (fun hif => ?_) (fun hif => ?_) | refine xQ rfl (fun hif => ?_) (fun hif => ?_) | refine xR rfl (fun hif => ?_) (fun hif => ?_) | refine xS rfl (fun hif => ?_) (fun hif => ?_)) <;> try (first | contradiction | (exfalso; omega)) | (refine hK _ _ ?_; clear hK K) | (refine And.intro (by first | omega | assumption | (constructor <;> omega)) ?_) | (refine And.intro (fun hif => ?_) (fun hif => ?_) <;> try (first | contradiction | (exfalso; omega))) | ((first | refine xT fun K hK => ?_ | refine xU fun K hK => ?_ | refine yB (fun K hK => ?_) (fun K hK => ?_) | refine xV ?_ | refine yA ?_ | refine xW ?_ | refine xX ?_ | refine xY ?_ | refine xZ ?_) <;> simp only [↓awpOps, ↓awpKeep, ↓awpKeepF, ↓aop, ↓aopQ, ↓abin, ↓aun, ↓onSome_some, ↓Kont_at, ↓KM_at, ↓KV_at, ↓KU_at, refId_row, Frame.ev, Frame.evs, Frame.evOr, Frame.put, Frame.keep, get_nil, get_cons, argFrame, resOf, fillA, Vals.len, Vals.get, Vals.set, Vals.app, Vals.sub, Vals.take, Vals.ofAgg_cons, Vals.ofList, Vals.toInts, Vals.toBools, Vals.toSls, Vals.toStrs, Vals.zeros, Nat.reduceBEq, Nat.reduceAdd, Nat.reduceEqDiff, cond_true, cond_false, Option.map_some, Option.map_none, List.length_cons, List.length_nil, List.replicate, List.set_cons_zero, List.set_cons_succ, Nat.reduceLT, Bool.not_true, Bool.not_false, Int.toNat_natCast, inR, Nat.zero_add, Int.toNat_zero, reduceCtorEq, IntKind.bits, List.nil_append, List.cons_append, Nat.add_zero, Nat.sub_zero, noughts_len, List.map_cons, List.map_nil, zp, zu]) | refine And.intro ?_ (fun hif => (hif trivial).elim) | (intro hif; try (first | contradiction | (exfalso; omega))))
  · refine awp_loop ?_
    have hlt : k < net.length := by omega
    refine ALoop.by [0, 3, 4, 5] (fun a : Nat × SV × Heap => [(0, .one (.sl ⟨ref, off, net.length⟩)), (3, .one (.sl a.2.1)), (4, .one (.int .i64 k)), (5, .one (.int .i64 a.1))]) (fun a => a.2.2) (fun a => a.1 ≤ net.length ∧ k < a.1 ∧ m <+: a.2.2 ∧ Grow m.length a.2.2.length m a.2.2 ∧ LAcc m.length a.2.2 a.2.1 (wiresTo net k ++ wiresIn net k a.1)) (fun a => net.length - a.1) (k + 1, t, m1) rfl rfl ⟨by simp only; omega, by simp only; omega, hm1, hg1, by rw [wiresIn_nil net k _ (Nat.le_refl _), List.append_nil]; exact hT⟩ ?_
    rintro ⟨j, t2, m2⟩ ⟨hj, hkj, hm2, hg2, hT2⟩ K2 hK2
    simp only at hj hkj hm2 hg2 hT2
    have hs2 := hs.pre hm2
    have hl1 := wiresTo_len net h6 k
    have hl2 := wiresIn_len net k j
    have hl0 : m.length ≤ m2.length := hm2.length_le
    have hbl : (wiresTo net k ++ wiresIn net k j).length < 1000000 := by rw [List.length_append]; omega
    have hd1 : 0 ≤ (net.getD k 0) / 2 ^ j := Int.ediv_nonneg (hok.low k hlt) (Int.le_of_lt (Int.pow_pos (by decide)))
    have hsh := shr_bit (j := j) (hok.low k hlt)
    repeat' (first | refine xA ?_ | refine xB ?_ | refine xC ?_ | refine xD ?_ | refine xE ?_ | refine xF ?_ | refine xG ?_ | refine xH ?_ | refine xI rfl ?_ | refine xJ ?_ | refine xK ?_ | refine xL ?_ | refine xM rfl ?_ | refine xN rfl ?_ | refine xO rfl ?_ | (first | refine xP rfl (fun hif => ?_) (fun hif => ?_) | refine xQ rfl (fun hif => ?_) (fun hif => ?_) | refine xR rfl (fun hif => ?_) (fun hif => ?_) | refine xS rfl (fun hif => ?_) (fun hif => ?_)) <;> try (first | contradiction | (exfalso; omega)) | (refine hK _ _ ?_; clear hK K) | refine onSome_of (hs2.2 _ (by omega)) ?_ | refine app_lists hl0 hg2.wf hT2 hbl fun s' m' hp3 hg3 hT3 => ?_ | (refine And.intro (by first | omega | assumption | (constructor <;> omega)) ?_) | (refine And.intro (fun hif => ?_) (fun hif => ?_) <;> try (first | contradiction | (exfalso; omega))) | ((first | refine xT fun K hK => ?_ | refine xU fun K hK => ?_ | refine yB (fun K hK => ?_) (fun K hK => ?_) | refine xV ?_ | refine yA ?_ | refine xW ?_ | refine xX ?_ | refine xY ?_ | refine xZ ?_) <;> simp only [↓awpOps, ↓awpKeep, ↓awpKeepF, ↓aop, ↓aopQ, ↓abin, ↓aun, ↓onSome_some, ↓Kont_at, ↓KM_at, ↓KV_at, ↓KU_at, refId_row, Frame.ev, Frame.evs, Frame.evOr, Frame.put, Frame.keep, get_nil, get_cons, argFrame, resOf, fillA, Vals.len, Vals.get, Vals.set, Vals.app, Vals.sub, Vals.take, Vals.ofAgg_cons, Vals.ofList, Vals.toInts, Vals.toBools, Vals.toSls, Vals.toStrs, Vals.zeros, Nat.reduceBEq, Nat.reduceAdd, Nat.reduceEqDiff, cond_true, cond_false, Option.map_some, Option.map_none, List.length_cons, List.length_nil, List.replicate, List.set_cons_zero, List.set_cons_succ, Nat.reduceLT, Bool.not_true, Bool.not_false, Int.toNat_natCast, inR, Nat.zero_add, Int.toNat_zero, reduceCtorEq, IntKind.bits, List.nil_append, List.cons_append, Nat.add_zero, Nat.sub_zero, noughts_len, List.map_cons, List.map_nil, zp, zu]) | refine And.intro ?_ (fun hif => (hif trivial).elim) | (intro hif; try (first | contradiction | (exfalso; omega))))
    · refine hK2 (j + 1, s', m') _ _ rfl rfl ⟨by simp only; omega, by simp only; omega, hm2.trans hp3, (hg2.mono (Nat.le_refl _) hp3.length_le).trans (hg3.mono (Nat.le_refl _) hp3.length_le), ?_⟩ (by simp only; omega)
      simp only [wiresIn]
      have hif' : bit ((net.getD k 0)) j = true := by
        cases hb : bit ((net.getD k 0)) j with
        | true => rfl
        | false => rw [hb, if_neg (by decide)] at hsh; omega
      rw [if_pos ⟨hkj, hif'⟩, ← List.append_assoc]
      exact hT3
    · refine hK2 (j + 1, t2, m2) _ _ rfl rfl ⟨by simp only; omega, by simp only; omega, hm2, hg2, ?_⟩ (by simp only; omega)
      simp only [wiresIn]
      rw [if_neg fun h => hif (by rw [hsh, if_pos h.2])]
      exact hT2
    · refine hK1 (k + 1, t2, m2) _ _ rfl rfl ⟨by simp only; omega, hm2, hg2, ?_⟩ (by simp only; omega)
      obtain rfl : j = net.length := by omega
      exact hT2
  · obtain rfl : k = net.length := by omega
    exact hK t m1 (grow00 hm1 hg1) hT.lists

end Go.Abs

/- Lists of lists: held against each other, marked, and what is held of the marks. Own work; no condition. -/
set_option maxRecDepth 100000
set_option linter.unusedSimpArgs false
set_option linter.unusedVariables false
namespace Go.Abs
open Go.Proofs
attribute [local irreducible] awp awpOps awpKeep KeepK awpKeepF KeepF aloop ALoop ACalls ACallq AQuiet retPost retPostA AExit.thn AExit.blk aApp aSt aStA

/-- How many numbers the first i lists have. -/
def tot (ll : List (List Int)) : Nat → Nat
  | 0 => 0
  | i + 1 => tot ll i + (ll.getD i []).length
theorem tot_mono (ll : List (List Int)) : ∀ {i j : Nat}, i ≤ j → tot ll i ≤ tot ll j
  | i, 0, h => by rw [Nat.le_zero.1 h]; exact Nat.le_refl _
  | i, j + 1, h => by
    by_cases e : i = j + 1
    · rw [e]; exact Nat.le_refl _
    · exact Nat.le_trans (tot_mono ll (by omega : i ≤ j)) (Nat.le_add_right _ _)
/-- All numbers of a list of lists told on from k. -/
def marksL (k : Int) (ll : List (List Int)) : List (List Int) := (List.range ll.length).map fun i => marks (k + tot ll i) (ll.getD i []).length
theorem marksL_len (k : Int) (ll : List (List Int)) : (marksL k ll).length = ll.length := by simp [marksL]
theorem marksL_get (k : Int) {ll : List (List Int)} {i : Nat} (h : i < ll.length) : (marksL k ll).getD i [] = marks (k + tot ll i) (ll.getD i []).length := by simp [marksL, List.getD_eq_getElem?_getD, h]

/-- A list of lists of which each has a row of its own, in a memory that is sound. -/
structure LObj (a b : Nat) (m : Heap) (s : SV) (ll : List (List Int)) : Prop where
  wf : m.wf
  is : Lists a b m s ll

theorem LObj.rows {a b : Nat} {m : Heap} {s : SV} {ll : List (List Int)} (h : LObj a b m s ll) : IsRows .i64 m s ll := h.is.rows
theorem LObj.len {a b : Nat} {m : Heap} {s : SV} {ll : List (List Int)} (h : LObj a b m s ll) : s.len = ll.length := h.is.len

theorem LObj.grow {a b c d : Nat} {m m' : Heap} {s : SV} {ll : List (List Int)} (h : LObj a b m s ll) (g : Grow c d m m') (hd : b ≤ c ∨ d ≤ a) : LObj a b m' s ll := by
  obtain ⟨svs, f, h1, h2, h3⟩ := h.is
  refine ⟨g.wf, svs, f, ?_, h2, h3.keep (fun _ _ hr p1 p2 _ => g.keep _ _ hr (by omega)) (Nat.le_refl _) (Nat.le_refl _) (.inl rfl)⟩
  rcases h1 with e | ⟨id, e1, e2, e3⟩
  · exact .inl e
  · refine Acc.grow (.inr ⟨id, e1, e2, e3⟩) g ?_ (by have := h.wf id _ e2; have := get_lt e2; simp only at *; omega)
    rcases h2 with h2 | h2
    · rw [h2] at e1; cases e1
    · omega
theorem LObj.grow0 {a b : Nat} {m m' : Heap} {s : SV} {ll : List (List Int)} (h : LObj a b m s ll) (g : Grow 0 0 m m') : LObj a b m' s ll := h.grow g (.inr (Nat.zero_le _))

/-- One list of a list of lists is written anew. -/
theorem LObj.put {a b : Nat} {m m' : Heap} {s : SV} {ll ll' : List (List Int)} (h : LObj a b m s ll) {i id fi : Nat} (hi : i < ll.length) (hr : m[id]? = some ⟨Ty.int, fi, true, .ints .i64 (ll.getD i [])⟩) (hsv : ∀ svs, IsSls m s svs → svs.getD i SV.nil = ⟨.row id, 0, (ll.getD i []).length⟩)
    (g : Grow fi (fi + 1) m m') (hr' : m'[id]? = some ⟨Ty.int, fi, true, .ints .i64 (ll'.getD i [])⟩) (hl : ll'.length = ll.length) (hli : (ll'.getD i []).length = (ll.getD i []).length) (ho : ∀ j, j ≠ i → ll'.getD j [] = ll.getD j []) : LObj a b m' s ll' := by
  obtain ⟨svs, f, h1, h2, h3, h4⟩ := h.is
  have e0 := hsv svs ((h1.obj' h2).isSls)
  obtain ⟨id0, f0, p1, p2, p3, p4, p5, p6⟩ := h4 i hi
  rw [p4] at e0
  simp only [SV.mk.injEq, Ref.row.injEq, and_true] at e0
  obtain rfl := e0
  obtain rfl : f0 = fi := by rw [p5] at hr; simpa using hr
  have hne : ∀ (j idj fj : Nat) (v : Vals), j < ll.length → j ≠ i → svs.getD j SV.nil = ⟨.row idj, 0, (ll.getD j []).length⟩ → m[idj]? = some ⟨Ty.int, fj, true, v⟩ → (∀ k, k < j → famAt m (svs.getD k SV.nil) ≠ some fj) → fj ≠ f0 := fun j idj fj v hj hji q4 q5 q6 => by
    rcases Nat.lt_or_gt_of_ne hji with h | h
    · have := p6 j h
      rw [q4, famAt_row q5] at this
      exact fun c => this (by rw [c])
    · have := q6 i h
      rw [p4, famAt_row p5] at this
      exact fun c => this (by rw [c])
  have hfam : ∀ j, j < ll.length → famAt m' (svs.getD j SV.nil) = famAt m (svs.getD j SV.nil) := fun j hj => by
    obtain ⟨idj, fj, q1, q2, q3, q4, q5, q6⟩ := h4 j hj
    by_cases hji : j = i
    · subst hji
      rw [p4, famAt_row p5, famAt_row hr']
    · have := hne j idj fj _ hj hji q4 q5 q6
      rw [q4, famAt_row q5, famAt_row (g.keep _ _ q5 (by simp only; omega))]
  refine ⟨g.wf, svs, f, ?_, h2, by rw [hl]; exact h3, fun j hj => ?_⟩
  · rcases h1 with e | ⟨id, e1, e2, e3⟩
    · exact .inl e
    · exact Acc.grow (.inr ⟨id, e1, e2, e3⟩) g (by omega) (by have := h.wf id _ e2; have := get_lt e2; simp only at *; omega)
  · rw [hl] at hj
    by_cases hji : j = i
    · subst hji
      exact ⟨id0, f0, p1, p2, p3, by rw [p4, hli], hr', fun k hk => by rw [hfam k (by omega)]; exact p6 k hk⟩
    · obtain ⟨idj, fj, q1, q2, q3, q4, q5, q6⟩ := h4 j hj
      have hid := hne j idj fj _ hj hji q4 q5 q6
      rw [ho j hji]
      exact ⟨idj, fj, q1, q2, q3, q4, g.keep _ _ q5 (by simp only; omega), fun k hk => by rw [hfam k (by omega)]; exact q6 k hk⟩

/-- The first i lists marked. -/
def marked (k : Int) (ll : List (List Int)) (i : Nat) : List (List Int) := (List.range ll.length).map fun j => if j < i then marks (k + tot ll j) (ll.getD j []).length else ll.getD j []
theorem marked_len (k : Int) (ll : List (List Int)) (i : Nat) : (marked k ll i).length = ll.length := by simp [marked]
theorem marked_get (k : Int) {ll : List (List Int)} (i : Nat) {j : Nat} (h : j < ll.length) : (marked k ll i).getD j [] = if j < i then marks (k + tot ll j) (ll.getD j []).length else ll.getD j [] := by simp [marked, List.getD_eq_getElem?_getD, h]
theorem marked_zero (k : Int) (ll : List (List Int)) : marked k ll 0 = ll := by
  apply List.ext_getElem (by simp [marked])
  intro i h1 h2
  simp [marked, List.getD_eq_getElem?_getD, h2]
theorem marked_all (k : Int) (ll : List (List Int)) : marked k ll ll.length = marksL k ll := by
  apply List.ext_getElem (by simp [marked, marksL])
  intro i h1 h2
  have h3 : i < ll.length := by simpa [marked] using h1
  simp [marked, marksL, h3]

/-- A call that hands back a list of lists in new memory, and leaves all rows alone. -/
def ARetL (P : Program) (f : FuncId) (args : List XV) (m : Heap) (ll : List (List Int)) : Prop :=
  ACalls P f args m fun x m' => ∃ s', x = .one (.sl s') ∧ Grow 0 0 m m' ∧ LObj m.length m'.length m' s' ll
theorem ARetL.call {P : Program} {f : FuncId} {args : List XV} {m : Heap} {ll : List (List Int)} {K : XV → Heap → Prop} (h : ARetL P f args m ll) (hk : ∀ (s' : SV) (m' : Heap), Grow 0 0 m m' → LObj m.length m'.length m' s' ll → K (.one (.sl s')) m') : ACalls P f args m K :=
  ACalls.mono h fun _ m' ⟨s', hx, hg, ho⟩ => hx ▸ hk s' m' hg ho
theorem arln {P : Program} {f : FuncId} {n : Nat} {code : ACode} {res : List Nat} (ht : trFnC P f = some ⟨n, code, res⟩) {args : List XV} {m : Heap} {ll : List (List Int)} (hlen : Nat.ble args.length n = true)
    (h : m.wf → awp P code (retPost res fun x m' => ∃ s', x = .one (.sl s') ∧ Grow 0 0 m m' ∧ LObj m.length m'.length m' s' ll) (argFrame 0 args) m) : ARetL P f args m ll :=
  ACalls.wf fun hwf => afn ht hlen (h hwf)

theorem lobj_nil {m : Heap} (hwf : m.wf) (a b : Nat) : LObj a b m SV.nil [] := ⟨hwf, [], 0, .inl ⟨rfl, rfl⟩, .inl rfl, rfl, fun i hi => absurd hi (Nat.not_lt_zero _)⟩
theorem lobj_new {m : Heap} (hwf : m.wf) : LObj m.length (m.length + 1) (m ++ [⟨Ty.Sl_int, m.length, true, .sls []⟩]) ⟨.row m.length, 0, 0⟩ [] :=
  ⟨wf_push hwf (Nat.le_refl _), [], m.length, acc_new hwf _ _ rfl, .inr ⟨Nat.le_refl _, Nat.lt_succ_self _⟩, rfl, fun i hi => absurd hi (Nat.not_lt_zero _)⟩

theorem impl_spec_NetOk_t {s : SV} {net : List Int} {m : Heap} (hs : IsInts .i64 m s net) (hb : NetOk net) : AQuiet Try.prog F.spec_NetOk [.one (.sl s)] m (.one (.bool true)) := by have := spec_NetOk s net m hs; rw [decide_eq_true hb] at this; exact this
theorem impl_spec_NetOk_f {s : SV} {net : List Int} {m : Heap} (hs : IsInts .i64 m s net) (hb : ¬ NetOk net) : AQuiet Try.prog F.spec_NetOk [.one (.sl s)] m (.one (.bool false)) := by have := spec_NetOk s net m hs; rw [decide_eq_false hb] at this; exact this

theorem impl_WireList_r (s : SV) (net : List Int) (m : Heap) (hs : IsInts .i64 m s net) : ARetL Try.prog F.impl_WireList [.one (.sl s)] m (wireList net) := by
  by_cases hN : NetOk net
  · rw [wireList, if_pos hN]
    refine ACalls.wf fun hwf => impl_WireList_g hs hN fun s' m' hg hL => ⟨s', rfl, hg, hg.wf, hL⟩
  · rw [wireList, if_neg hN]
    refine arln T.impl_WireList (by rfl) fun hwf => ?_
    repeat' (first | refine xA ?_ | refine xB ?_ | refine xC ?_ | refine xD ?_ | refine xE ?_ | refine xF ?_ | refine xG ?_ | refine xH ?_ | refine xI rfl ?_ | refine xJ ?_ | refine xK ?_ | refine xL ?_ | refine xM rfl ?_ | refine xN rfl ?_ | refine xO rfl ?_ | (first | refine xP rfl (fun hif => ?_) (fun hif => ?_) | refine xQ rfl (fun hif => ?_) (fun hif => ?_) | refine xR rfl (fun hif => ?_) (fun hif => ?_) | refine xS rfl (fun hif => ?_) (fun hif => ?_)) <;> try (first | contradiction | (exfalso; omega)) | (refine hK _ _ ?_; clear hK K) | refine AQuiet.call (impl_NetOk_b false hs (decide_eq_false hN)) trivial ?_ | (refine And.intro (by first | omega | assumption | (constructor <;> omega)) ?_) | (refine And.intro (fun hif => ?_) (fun hif => ?_) <;> try (first | contradiction | (exfalso; omega))) | ((first | refine xT fun K hK => ?_ | refine xU fun K hK => ?_ | refine yB (fun K hK => ?_) (fun K hK => ?_) | refine xV ?_ | refine yA ?_ | refine xW ?_ | refine xX ?_ | refine xY ?_ | refine xZ ?_) <;> simp only [↓awpOps, ↓awpKeep, ↓awpKeepF, ↓aop, ↓aopQ, ↓abin, ↓aun, ↓onSome_some, ↓Kont_at, ↓KM_at, ↓KV_at, ↓KU_at, refId_row, Frame.ev, Frame.evs, Frame.evOr, Frame.put, Frame.keep, get_nil, get_cons, argFrame, resOf, fillA, Vals.len, Vals.get, Vals.set, Vals.app, Vals.sub, Vals.take, Vals.ofAgg_cons, Vals.ofList, Vals.toInts, Vals.toBools, Vals.toSls, Vals.toStrs, Vals.zeros, Nat.reduceBEq, Nat.reduceAdd, Nat.reduceEqDiff, cond_true, cond_false, Option.map_some, Option.map_none, List.length_cons, List.length_nil, List.replicate, List.set_cons_zero, List.set_cons_succ, Nat.reduceLT, Bool.not_true, Bool.not_false, Int.toNat_natCast, inR, Nat.zero_add, Int.toNat_zero, reduceCtorEq, IntKind.bits, List.nil_append, List.cons_append, Nat.add_zero, Nat.sub_zero, noughts_len, List.map_cons, List.map_nil, zp, zu]) | refine And.intro ?_ (fun hif => (hif trivial).elim) | (intro hif; try (first | contradiction | (exfalso; omega))))
    exact ⟨_, rfl, Grow.refl hwf _ _, lobj_nil hwf _ _⟩

theorem wireList_small (net : List Int) : (wireList net).length ≤ 100000000 ∧ (∀ i, i < (wireList net).length → ((wireList net).getD i []).length ≤ 1000000) ∧ (0 ≤ (1 : Int) ∧ (1 : Int) + (tot (wireList net) (wireList net).length : Int) ≤ 1000000000) := by
  have hl : (wireList net).length ≤ 36 := by
    unfold wireList
    split
    · rename_i h; exact Nat.le_trans (wiresTo_len net h.six net.length) (by have := h.six; omega)
    · simp
  have hi : ∀ i, i < (wireList net).length → ((wireList net).getD i []).length ≤ 2 := fun i hi => by
    unfold wireList at hi ⊢
    split
    · rename_i h
      rw [if_pos h] at hi
      obtain ⟨a, b, e, _⟩ := wire_at hi
      rw [e]; simp
    · rename_i h
      rw [if_neg h] at hi
      exact absurd hi (Nat.not_lt_zero _)
  have ht : ∀ i, i ≤ (wireList net).length → tot (wireList net) i ≤ 2 * i := fun i => by
    induction i with
    | zero => intro _; exact Nat.le_refl _
    | succ i ih => intro h; have h1 := ih (by omega); have h2 := hi i (by omega); unfold tot; omega
  refine ⟨by omega, fun i h => by have := hi i h; omega, by decide, ?_⟩
  have := ht _ (Nat.le_refl _)
  omega

end Go.Abs
