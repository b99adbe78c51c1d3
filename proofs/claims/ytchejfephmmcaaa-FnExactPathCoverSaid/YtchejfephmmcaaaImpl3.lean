/- A row that has begun, as the program keeps it: its contracts. Own work; no condition. -/
import Derived.Test.YtchejfephmmcaaaSpecG2
set_option maxRecDepth 100000
set_option linter.unusedSimpArgs false
set_option linter.unusedVariables false
namespace Go.Abs
open Go.Proofs
attribute [local irreducible] awp awpOps awpKeep KeepK awpKeepF KeepF aloop ALoop ACalls ACallq AQuiet retPost retPostA AExit.thn AExit.blk aApp aSt aStA

/-! ### Marks -/

/-! ### The row that has begun -/

end Go.Abs

/- The program's third chapter, by contracts. Own work; no condition. -/
set_option maxRecDepth 100000
set_option linter.unusedSimpArgs false
set_option linter.unusedVariables false
namespace Go.Abs
open Go.Proofs
attribute [local irreducible] awp awpOps awpKeep KeepK awpKeepF KeepF aloop ALoop ACalls ACallq AQuiet retPost retPostA AExit.thn AExit.blk aApp aSt aStA

/-- append(s, x[..xl]...): a part of a row. -/
theorem app_part {e : TypeId} {s : SV} {m : Heap} {K : XV → Heap → Prop} {l L : List Int} {f xi xl ex fx : Nat} {ox : Bool} (hwf : m.wf) (hs : Acc e f m s (.ints .i64 l)) (hne : s ≠ SV.nil) (hrx : m[xi]? = some ⟨ex, fx, ox, .ints .i64 L⟩) (hxl : xl ≤ L.length) (hlen : l.length + xl ≤ 1000000000)
    (hk : ∀ (s' : SV) (m' : Heap), m <+: m' → Grow f (f + 1) m m' → Acc e f m' s' (.ints .i64 (l ++ L.take xl)) → s' ≠ SV.nil → K (.one (.sl s')) m') : aApp e s ⟨.row xi, 0, xl⟩ m K := by
  rcases hs with ⟨e0, _⟩ | ⟨id, rfl, hid, hfam⟩
  · exact absurd e0 hne
  · have hfid := hwf id _ hid
    have hil := get_lt hid
    simp only at hfid
    have ht : (Vals.ints .i64 l).app ((Vals.ints .i64 L).sub 0 xl) = some (.ints .i64 (l ++ L.take xl)) := by simp [Vals.app, Vals.sub]
    simp only [aApp, hid, hrx, Nat.zero_add, Vals.take_len, ht]
    simp only [Vals.len] at hfam ⊢
    refine ⟨⟨hxl, by omega⟩, ⟨trivial, trivial, Nat.le_refl _, trivial⟩, ?_⟩
    rw [cutFam_self hfam]
    refine hk _ _ (prefix_push _ _) ⟨by simp, fun i r hr _ => row_at_push hr _, fun i r hi hr => ?_, fun i r hi hr => ?_, wf_push hwf (by omega)⟩ (.inr ⟨m.length, by simp [Vals.len, Nat.min_eq_left hxl], get_last _ _, fun j r hr ho hf => ?_⟩) (fun c => by cases c)
    · rcases get_push hr with ⟨_, h2⟩ | ⟨h1, _⟩
      · exact ⟨r, h2, rfl, rfl, Nat.le_refl _⟩
      · omega
    · rcases get_push hr with ⟨h1, _⟩ | ⟨_, rfl⟩
      · omega
      · exact .inr ⟨Nat.le_refl _, Nat.lt_succ_self _⟩
    · rcases get_push hr with ⟨_, h2⟩ | ⟨_, rfl⟩
      · have := hfam j r h2 ho hf; simp only [Vals.len, List.length_append]; omega
      · exact Nat.le_refl _

theorem ACalls_wf_q {P : Program} {f : FuncId} {args : List XV} {m : Heap} {v : XV} (h : m.wf → AQuiet P f args m v) : AQuiet P f args m v := by
  delta AQuiet at h ⊢
  exact ACalls.wf h
theorem impl_NetOk_t {s : SV} {net : List Int} {m : Heap} (hs : IsInts .i64 m s net) (hb : NetOk net) : AQuiet Try.prog F.impl_NetOk [.one (.sl s)] m (.one (.bool true)) := impl_NetOk_b true hs (decide_eq_true hb)
theorem impl_NetOk_f {s : SV} {net : List Int} {m : Heap} (hs : IsInts .i64 m s net) (hb : ¬ NetOk net) : AQuiet Try.prog F.impl_NetOk [.one (.sl s)] m (.one (.bool false)) := impl_NetOk_b false hs (decide_eq_false hb)
end Go.Abs
