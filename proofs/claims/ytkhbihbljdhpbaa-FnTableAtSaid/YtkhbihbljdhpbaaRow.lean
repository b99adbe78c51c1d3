/- From a contract over rows to the given statement's own words: laws of one slice of numbers, and of numbers alone. Own work; no condition. -/
import Derived.Test.YtkhbihbljdhpbaaUse
import Derived.Carry
import Derived.OpenShut
import Derived.ProofKit
import Derived.ChangeSlices
import Derived.ChangeSame
import Derived.JoinedOf
import Derived.JoinedAt
namespace Go.Abs
open Go.ChangeShapes Go.WideShapes Go.ChangeAt Go.RowKit

section
variable {H : Type} {enc : TypeId × Value → H} {P : Program}

/-- A law's call from the outside: what it asks of memory holds of no row at all. -/
theorem start_none (W : World) (μ : Mu) : HRel W.heap.size W μ [] W :=
  ⟨Below.refl _ _, Nat.le_refl _, fun id r h => by simp at h, fun i j r s h => by simp at h⟩

theorem start_row (W : World) (k : IntKind) (b o cap : Nat) (l : List Int) (hb : b < W.heap.size) (hc : ∀ i, i < l.length → W.cell? ⟨b, o + i, none⟩ = some (.int k (l.getD i 0))) :
    HRel W.heap.size W (fun _ => ⟨b, o, cap⟩) [⟨0, 0, false, .ints k l⟩] W := by
  have hone : ∀ (id : Nat) (r : Row), ([⟨0, 0, false, .ints k l⟩] : Heap)[id]? = some r → id = 0 ∧ r = ⟨0, 0, false, .ints k l⟩ := by
    intro id r h
    have hlt : id < 1 := (List.getElem?_eq_some_iff.1 h).1
    obtain rfl : id = 0 := by omega
    exact ⟨rfl, by simpa using h.symm⟩
  refine ⟨Below.refl _ _, Nat.le_refl _, fun id r h => ?_, fun i j r s hi hj hr => ?_⟩
  · obtain ⟨rfl, rfl⟩ := hone id r h
    exact ⟨Nat.le_refl _, fun i hi => trivial, (fun ho => by cases ho), fun _ => ⟨hb, fun i hi => hc i hi⟩⟩
  · obtain ⟨rfl, rfl⟩ := hone i r hi
    cases hr

theorem slice_contract {f : FuncId} {fn : Func} {s : ChangeSpec} {t e tb : TypeId} {k : IntKind} {apart fresh : Bool} (ht : P.underlying t = some (.slice e)) (he : P.underlying e = some (.int k)) (hc : P.cellsOf e = 1) (hb : P.underlying tb = some .bool)
    (hlaid : laidOutB P = true) (hread : P.readableRec t = true) (htlt : t < P.types.size) (hparams : fn.params.toList = [t]) (hres : fn.resultTypes.toList = [tb]) (hsize : fn.resultTypes.size = 1) (hvars : s.vars = [])
    (hfn : ∀ d, s.fn H [d] = { results := [.lit (.bool true)], args := [d] })
    (law : ∀ (l : List Int) (sv : SV) (m : Heap), m.wf → IsInts k m sv l → (∀ z ∈ l, (Lit.int k z).wf = true) → l.length ≤ maxLen → AQuiet P f [.one (.sl sv)] m (.one (.bool true)))
    (W : World) (base : Nat) (args : Array Value) (ds gs : List (DataW H)) (before : List MemPlace)
    (hval : ∀ (j : Nat) t v, fn.params[j]? = some t → args[j]? = some v → Value.okWide P W .any base t v) (hW : DataW.Whole enc P fn.params.toList s.vars apart W args.toList ds gs before) :
    Calls P f args W fun e W' => ∃ v, e = .returned v ∧ s.post enc P fn apart fresh false false W args v W' := by
  have hW' := hW
  obtain ⟨p, q, hA0, hV, rfl, hfz, hnd⟩ := hW
  have hA : DataW.TrodAll enc P W 0 (fun _ => true) true fn.params.toList args.toList ds p := hA0
  rw [hparams] at hA
  rw [hvars] at hV
  obtain ⟨v0, d0, rfl, rfl, h0⟩ := trodAll_one hA
  obtain ⟨rfl, rfl⟩ := trodVars_none hV
  have hp0 : fn.params[0]? = some t := by rw [← Array.getElem?_toList, hparams]; rfl
  obtain ⟨a0, len, cap, rfl⟩ := okWide_slice ht (hval 0 t v0 hp0 rfl)
  have hTrod := h0
  obtain ⟨fuel, hf⟩ := h0
  simp only [List.append_nil] at hW'
  have fin : Calls P f #[.slice a0 len cap] W fun e W' => e = .returned (.bool true) ∧ Below W.heap.size W W' := by
    have use : ∀ (l : List Int) (sv : SV) (m : Heap) (μ : Mu), HRel W.heap.size W μ m W → IsInts k m sv l → (∀ z ∈ l, (Lit.int k z).wf = true) → l.length ≤ maxLen → sv.ok μ m.length → sv.conc μ = .slice a0 len cap →
        Calls P f #[.slice a0 len cap] W fun e W' => e = .returned (.bool true) ∧ Below W.heap.size W W' := by
      intro l sv m μ hh hi hw hl hok hconc
      have := law l sv m (fun id r hr => (hh.rows id r hr).fam) hi hw hl W.heap.size W μ W hh (fun x hx => by rw [List.mem_singleton.1 hx]; exact hok)
      simp only [List.map_cons, List.map_nil, concX, conc, hconc] at this
      refine this.mono fun e W' => ?_
      rintro ⟨x, m', μ', ⟨rfl, _⟩, rfl, _, h2, _⟩
      exact ⟨rfl, h2.below⟩
    rcases open_ints ht he hc hf with ⟨hcs, hx⟩ | ⟨a, len', cap', zs, hcs, _, hl, hm, hz, hx, hcell, hwz⟩
    · simp [Value.cells] at hcs
      obtain ⟨rfl, rfl, rfl⟩ := hcs
      exact use [] SV.nil [] (fun _ => default) (start_none W _) (isInts_nil _ _) (by simp) (Nat.zero_le _) rfl rfl
    · simp [Value.cells] at hcs
      obtain ⟨rfl, rfl, rfl⟩ := hcs
      simp only [if_true] at hz
      by_cases hc0 : cap = 0
      · subst hc0
        obtain rfl : len = 0 := by omega
        exact use [] ⟨.far a, 0, 0⟩ [] (fun _ => default) (start_none W _) ⟨rfl, fun i hi => by simp at hi⟩ (by simp) (Nat.zero_le _) rfl rfl
      · obtain ⟨b, off, spot⟩ := a
        have hc1 := hcell 0 (by omega)
        have hspot : spot = none := by simpa [Addr.add] using World.cell?_spot hc1
        subst hspot
        have hcell' : ∀ i, i < zs.length → W.cell? ⟨b, off + i, none⟩ = some (.int k (zs.getD i 0)) := fun i hi => by rw [← add_lit]; exact hcell i hi
        have hblt : b < W.heap.size := by
          have := World.block_lt_of_cell? W _ (hcell' 0 (by omega))
          exact this
        have htl : (zs.take len).length = len := by rw [List.length_take]; omega
        refine use (zs.take len) ⟨.row 0, 0, len⟩ [⟨0, 0, false, .ints k (zs.take len)⟩] (fun _ => ⟨b, off, cap⟩) (start_row W k b off cap _ hblt fun i hi => ?_) ⟨htl.symm, fun i hi => ?_⟩ (fun z hz => hwz z (List.mem_of_mem_take hz)) (by omega) ⟨Nat.one_pos, by simpa using hl⟩ rfl
        · rw [htl] at hi
          rw [hcell' i (by omega)]
          simp [List.getD_eq_getElem?_getD, hi]
        · rw [Nat.zero_add]
          exact at_row (r := ⟨0, 0, false, .ints k (zs.take len)⟩) rfl hi
  refine fin.mono fun e W' ⟨he, hB⟩ => ?_
  subst he
  refine ⟨_, rfl, [d0], [], p, [], p, [], hW', ?_, ?_, ?_, hB.frame _, fun h => by cases h⟩
  · rw [hres, hsize, List.append_nil, hfn]
    exact trodAll_mk1 (shut_bool hb true)
  · rw [hparams, List.append_nil, hfn]
    exact trodAll_mk1 (Below.trod hlaid hread htlt hTrod hB fun x hx => hW'.lt x hx)
  · rw [hvars, List.append_nil, hfn]
    rfl

end
end Go.Abs
