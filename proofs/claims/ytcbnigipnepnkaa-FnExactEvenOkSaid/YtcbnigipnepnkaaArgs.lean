/- From a contract over rows to the given statement's own words: laws of any number of slices of numbers and of numbers. Own work; no condition. -/
import Derived.Test.YtcbnigipnepnkaaUse
import Derived.Carry
import Derived.OpenShut
import Derived.ProofKit
import Derived.ChangeSlices
import Derived.ChangeSame
import Derived.JoinedOf
import Derived.JoinedAt
namespace Go.Abs
open Go.ChangeShapes Go.WideShapes Go.ChangeAt Go.RowKit

/-- What a parameter may be. -/
inductive Kd where
  | ints (k : IntKind)
  | int

def Kd.Is (P : Program) (t : TypeId) : Kd → Prop
  | .ints k => ∃ e, P.underlying t = some (.slice e) ∧ P.underlying e = some (.int k) ∧ P.cellsOf e = 1
  | .int => P.underlying t = some (.int .i64)
def Kds (P : Program) : List TypeId → List Kd → Prop
  | [], [] => True
  | t :: ts, k :: ks => k.Is P t ∧ Kds P ts ks
  | _, _ => False

/-- An argument, as rows tell it. -/
def ArgIs (m : Heap) : Kd → XV → Prop
  | .ints k, x => ∃ sv l, x = .one (.sl sv) ∧ IsInts k m sv l ∧ (∀ z ∈ l, (Lit.int k z).wf = true) ∧ l.length ≤ maxLen
  | .int, x => ∃ n, x = .one (.int .i64 n) ∧ (Lit.int .i64 n).wf = true
def ArgsAre (m : Heap) : List Kd → List XV → Prop
  | [], [] => True
  | k :: ks, x :: xs => ArgIs m k x ∧ ArgsAre m ks xs
  | _, _ => False

theorem ArgIs.pre {m m' : Heap} {k : Kd} {x : XV} (h : ArgIs m k x) (hp : m <+: m') : ArgIs m' k x := by
  cases k with
  | ints k =>
    obtain ⟨sv, l, h1, h2, h3⟩ := h
    exact ⟨sv, l, h1, h2.pre hp, h3⟩
  | int => exact h

theorem wf_range {n : Int} (h : (Lit.int .i64 n).wf = true) : -9223372036854775808 ≤ n ∧ n ≤ 9223372036854775807 := by
  have h2 := Bool.and_eq_true_iff.1 h
  exact ⟨of_decide_eq_true h2.1, of_decide_eq_true h2.2⟩

def AllOld (m : Heap) : Prop := ∀ (id : Nat) (r : Row), m[id]? = some r → r.own = false

section
variable {H : Type} {enc : TypeId × Value → H} {P : Program}

theorem start_empty (W : World) (μ : Mu) : HRel W.heap.size W μ [] W :=
  ⟨Below.refl _ _, Nat.le_refl _, fun id r h => by simp at h, fun i j r s h => by simp at h⟩

/-- One more row that was there. -/
theorem push_old {W : World} {μ : Mu} {m : Heap} (hh : HRel W.heap.size W μ m W) (hold : AllOld m) (k : IntKind) (b o cap : Nat) (l : List Int) (hb : b < W.heap.size) (hc : ∀ i, i < l.length → W.cell? ⟨b, o + i, none⟩ = some (.int k (l.getD i 0))) :
    ∃ μ' : Mu, Agree m.length μ μ' ∧ μ' m.length = ⟨b, o, cap⟩ ∧ HRel W.heap.size W μ' (m ++ [⟨0, m.length, false, .ints k l⟩]) W ∧ AllOld (m ++ [⟨0, m.length, false, .ints k l⟩]) := by
  have hag : Agree m.length μ (fun i => if i = m.length then ⟨b, o, cap⟩ else μ i) := fun i hi => by simp only; rw [if_neg (by omega)]
  have hall : AllOld (m ++ [⟨0, m.length, false, .ints k l⟩]) := by
    intro id r hr
    rcases get_push hr with ⟨_, h2⟩ | ⟨_, rfl⟩
    · exact hold id r h2
    · rfl
  refine ⟨_, hag, if_pos rfl, ⟨Below.refl _ _, Nat.le_refl _, fun id r hr => ?_, fun i j r s hi hj hr => ?_⟩, hall⟩
  · rcases get_push hr with ⟨h1, h2⟩ | ⟨rfl, rfl⟩
    · exact (hh.rows id r h2).agree hag (by simp) h1
    · refine ⟨Nat.le_refl _, fun i hi => trivial, (fun ho => by cases ho), fun _ => ?_⟩
      simp only [if_true]
      exact ⟨hb, fun i hi => hc i hi⟩
  · rw [hall i r hi] at hr
    cases hr

theorem open_one {W : World} {m : Heap} {μ : Mu} (hh : HRel W.heap.size W μ m W) (hold : AllOld m) {t : TypeId} {kd : Kd} {v : Value} {d : DataW H} {ps : List MemPlace} {b0 : Nat} (hk : kd.Is P t) (hval : Value.okWide P W .any b0 t v)
    (hd : DataW.Trod enc P W 0 (fun _ => true) true t v d ps) :
    ∃ x m' μ', m <+: m' ∧ Agree m.length μ μ' ∧ HRel W.heap.size W μ' m' W ∧ AllOld m' ∧ x.ok μ' m'.length ∧ concX μ' x = v ∧ ArgIs m' kd x := by
  cases kd with
  | int =>
    obtain ⟨n, rfl, _, _, hw⟩ := open_int hk hval hd
    exact ⟨.one (.int .i64 n), m, μ, List.prefix_rfl, Agree.refl _ _, hh, hold, trivial, rfl, n, rfl, hw⟩
  | ints k =>
    obtain ⟨e, ht, he, hc⟩ := hk
    obtain ⟨a0, len, cap, rfl⟩ := okWide_slice ht hval
    obtain ⟨fuel, hf⟩ := hd
    rcases open_ints ht he hc hf with ⟨hcs, hx⟩ | ⟨a, len', cap', zs, hcs, _, hl, hm, hz, hx, hcell, hwz⟩
    · simp [Value.cells] at hcs
      obtain ⟨rfl, rfl, rfl⟩ := hcs
      exact ⟨.one (.sl SV.nil), m, μ, List.prefix_rfl, Agree.refl _ _, hh, hold, rfl, rfl, SV.nil, [], rfl, isInts_nil _ _, by simp, Nat.zero_le _⟩
    · simp [Value.cells] at hcs
      obtain ⟨rfl, rfl, rfl⟩ := hcs
      simp only [if_true] at hz
      by_cases hc0 : cap = 0
      · subst hc0
        obtain rfl : len = 0 := by omega
        exact ⟨.one (.sl ⟨.far a, 0, 0⟩), m, μ, List.prefix_rfl, Agree.refl _ _, hh, hold, rfl, rfl, ⟨.far a, 0, 0⟩, [], rfl, ⟨rfl, fun i hi => by simp at hi⟩, by simp, Nat.zero_le _⟩
      · obtain ⟨b, off, spot⟩ := a
        have hc1 := hcell 0 (by omega)
        have hspot : spot = none := by simpa [Addr.add] using World.cell?_spot hc1
        subst hspot
        have hcell' : ∀ i, i < zs.length → W.cell? ⟨b, off + i, none⟩ = some (.int k (zs.getD i 0)) := fun i hi => by rw [← add_lit]; exact hcell i hi
        have hblt : b < W.heap.size := World.block_lt_of_cell? W _ (hcell' 0 (by omega))
        have htl : (zs.take len).length = len := by rw [List.length_take]; omega
        obtain ⟨μ', h1, h2, h3, h4⟩ := push_old hh hold k b off cap (zs.take len) hblt (fun i hi => by
          rw [htl] at hi
          rw [hcell' i (by omega)]
          simp [List.getD_eq_getElem?_getD, hi])
        refine ⟨.one (.sl ⟨.row m.length, 0, len⟩), _, μ', prefix_push _ _, h1, h3, h4, ?_, ?_, ⟨.row m.length, 0, len⟩, zs.take len, rfl, ⟨htl.symm, fun i hi => ?_⟩, fun z hz => hwz z (List.mem_of_mem_take hz), by omega⟩
        · refine ⟨by simp, ?_⟩
          rw [h2]
          simpa using hl
        · simp only [concX, conc, SV.conc, h2]
          rfl
        · rw [Nat.zero_add]
          exact at_row (get_last m _) hi

theorem open_all {W : World} {b0 : Nat} : ∀ (ts : List TypeId) (kds : List Kd) (vs : List Value) (ds : List (DataW H)) (ps : List MemPlace) (m : Heap) (μ : Mu), HRel W.heap.size W μ m W → AllOld m → Kds P ts kds →
    (∀ (j : Nat) t v, ts[j]? = some t → vs[j]? = some v → Value.okWide P W .any b0 t v) → DataW.TrodAll enc P W 0 (fun _ => true) true ts vs ds ps →
    ∃ xs m' μ', m <+: m' ∧ Agree m.length μ μ' ∧ HRel W.heap.size W μ' m' W ∧ (∀ x ∈ xs, x.ok μ' m'.length) ∧ xs.map (concX μ') = vs ∧ ArgsAre m' kds xs
  | [], kds, vs, ds, ps, m, μ, hh, hold, hk, hval, hd => by
    obtain ⟨rfl, rfl, rfl⟩ := trodAll_nil hd
    cases kds with
    | nil => exact ⟨[], m, μ, List.prefix_rfl, Agree.refl _ _, hh, by simp, rfl, trivial⟩
    | cons _ _ => exact hk.elim
  | t :: ts, [], vs, ds, ps, m, μ, hh, hold, hk, hval, hd => hk.elim
  | t :: ts, k :: kds, vs, ds, ps, m, μ, hh, hold, hk, hval, hd => by
    obtain ⟨v, vs', d, ds', p, q, rfl, rfl, rfl, h1, h2⟩ := trodAll_cons hd
    obtain ⟨x, m1, μ1, a1, a2, a3, a4, a5, a6, a7⟩ := open_one hh hold hk.1 (hval 0 t v rfl rfl) h1
    obtain ⟨xs, m2, μ2, b1, b2, b3, b4, b5, b6⟩ := open_all ts kds vs' ds' q m1 μ1 a3 a4 hk.2 (fun j t v h h' => hval (j + 1) t v h h') h2
    have hc := concX_agree b2 a5
    refine ⟨x :: xs, m2, μ2, a1.trans b1, a2.trans b2 a1.length_le, b3, fun y hy => ?_, by rw [List.map_cons, hc.1, a6, b5], a7.pre b1, b6⟩
    rcases List.mem_cons.1 hy with rfl | hy
    · exact XV.ok_mono b1.length_le hc.2
    · exact b4 y hy

theorem stays_all {W W' : World} (hlaid : laidOutB P = true) (hb : Below W.heap.size W W') : ∀ (ts : List TypeId) (vs : List Value) (ds : List (DataW H)) (ps : List MemPlace), (∀ t ∈ ts, P.readableRec t = true ∧ t < P.types.size) →
    DataW.TrodAll enc P W 0 (fun _ => true) true ts vs ds ps → (∀ x ∈ ps, x.block < W.heap.size) → DataW.TrodAll enc P W' 0 (fun b => decide (b < W.heap.size)) true ts vs ds ps
  | [], vs, ds, ps, _, hd, _ => by
    obtain ⟨rfl, rfl, rfl⟩ := trodAll_nil hd
    exact trodAll_mk0
  | t :: ts, vs, ds, ps, hr, hd, hlt => by
    obtain ⟨v, vs', d, ds', p, q, rfl, rfl, rfl, h1, h2⟩ := trodAll_cons hd
    exact ⟨p, q, Below.trod hlaid (hr t (by simp)).1 (hr t (by simp)).2 h1 hb (fun x hx => hlt x (by simp [hx])), stays_all hlaid hb ts vs' ds' q (fun t ht => hr t (by simp [ht])) h2 (fun x hx => hlt x (by simp [hx])), rfl⟩

theorem trodAll_count {w : World} {base : Nat} {spare : Nat → Bool} {held : Bool} : ∀ {ts : List TypeId} {vs : List Value} {ds : List (DataW H)} {ps : List MemPlace}, DataW.TrodAll enc P w base spare held ts vs ds ps → ds.length = ts.length
  | [], vs, ds, ps, h => by obtain ⟨_, rfl, _⟩ := trodAll_nil h; rfl
  | t :: ts, vs, ds, ps, h => by
    obtain ⟨v, vs', d, ds', p, q, rfl, rfl, rfl, h1, h2⟩ := trodAll_cons h
    simp [trodAll_count h2]

theorem law_contract {f : FuncId} {fn : Func} {s : ChangeSpec} {ts : List TypeId} {kds : List Kd} {tb : TypeId} {apart fresh : Bool} (hk : Kds P ts kds) (hb : P.underlying tb = some .bool)
    (hlaid : laidOutB P = true) (hread : ts.all (fun t => P.readableRec t && decide (t < P.types.size)) = true) (hparams : fn.params.toList = ts) (hres : fn.resultTypes.toList = [tb]) (hsize : fn.resultTypes.size = 1) (hvars : s.vars = [])
    (hfn : ∀ ds : List (DataW H), ds.length = ts.length → s.fn H ds = { results := [.lit (.bool true)], args := ds })
    (law : ∀ (xs : List XV) (m : Heap), m.wf → ArgsAre m kds xs → AQuiet P f xs m (.one (.bool true)))
    (W : World) (base : Nat) (args : Array Value) (ds gs : List (DataW H)) (before : List MemPlace)
    (hval : ∀ (j : Nat) t v, fn.params[j]? = some t → args[j]? = some v → Value.okWide P W .any base t v) (hW : DataW.Whole enc P fn.params.toList s.vars apart W args.toList ds gs before) :
    Calls P f args W fun e W' => ∃ v, e = .returned v ∧ s.post enc P fn apart fresh false false W args v W' := by
  have hW' := hW
  obtain ⟨p, q, hA0, hV, rfl, hfz, hnd⟩ := hW
  have hA : DataW.TrodAll enc P W 0 (fun _ => true) true fn.params.toList args.toList ds p := hA0
  rw [hparams] at hA
  rw [hvars] at hV
  obtain ⟨rfl, rfl⟩ := trodVars_none hV
  simp only [List.append_nil] at hW'
  obtain ⟨xs, m, μ, _, _, hh, hok, hconc, hargs⟩ := open_all (b0 := base) ts kds args.toList ds p [] (fun _ => default) (start_empty W _) (fun id r h => by simp at h) hk (fun j t v h1 h2 => hval j t v (by rw [← Array.getElem?_toList, hparams]; exact h1) (by rw [← Array.getElem?_toList]; exact h2)) hA
  have hlen := trodAll_count hA
  have fin := law xs m (fun id r hr => (hh.rows id r hr).fam) hargs W.heap.size W μ W hh hok
  rw [hconc] at fin
  have ea : args.toList.toArray = args := by simp
  rw [ea] at fin
  refine fin.mono fun e W' => ?_
  rintro ⟨x, m', μ', ⟨rfl, _⟩, rfl, _, h2, _⟩
  have hB := h2.below
  refine ⟨_, rfl, ds, [], p, [], p, [], hW', ?_, ?_, ?_, hB.frame _, fun h => by cases h⟩
  · rw [hres, hsize, List.append_nil, hfn ds hlen]
    exact trodAll_mk1 (shut_bool hb true)
  · rw [hparams, List.append_nil, hfn ds hlen]
    exact stays_all hlaid hB ts _ ds p (fun t ht => by have := List.all_eq_true.1 hread t ht; simpa using this) hA fun x hx => hW'.lt x hx
  · rw [hvars, List.append_nil, hfn ds hlen]
    rfl

end
end Go.Abs
