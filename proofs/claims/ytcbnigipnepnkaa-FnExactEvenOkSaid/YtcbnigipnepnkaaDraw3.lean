/- What draws a net and a row leaves some net and some row, whatever the code. Own work; no condition. -/
import Derived.Test.YtcbnigipnepnkaaDraw2
import Derived.Test.YtcbnigipnepnkaaGrow
set_option maxRecDepth 100000
set_option linter.unusedSimpArgs false
set_option linter.unusedVariables false
namespace Go.Abs
open Go.Proofs
attribute [local irreducible] awp awpOps aloop ALoop ACalls ACallq AQuiet retPost retPostA AExit.thn AExit.blk aApp aSt aStA

theorem grow_set {m : Heap} {i : Nat} {r r' : Row} (hwf : m.wf) (h : m[i]? = some r) (hf : r'.fam = r.fam) (ho : r'.own = r.own) (hl : r'.vals.len ≤ r.vals.len) : Grow r.fam (r.fam + 1) m (m.set i r') := by
  have hil := get_lt h
  refine ⟨by rw [List.length_set]; exact Nat.le_refl _, fun j s hs hn => ?_, fun j s hj hs => ?_, fun j s hj hs => ?_, wf_set hwf (by rw [hf]; exact hwf i r h)⟩
  · rw [get_set_ne (fun e => by subst e; rw [h] at hs; cases hs; omega)]
    exact hs
  · by_cases e : i = j
    · subst e
      rw [get_set_self hil] at hs
      cases hs
      exact ⟨r, h, hf.symm, ho.symm, hl⟩
    · rw [get_set_ne e] at hs
      exact ⟨s, hs, rfl, rfl, Nat.le_refl _⟩
  · have := get_lt hs
    rw [List.length_set] at this
    omega

theorem IsRd.grow {m0 m m' : Heap} {rid c d : Nat} {b : SV} {bl : List Int} {p : Int} (h : IsRd m0 m rid b bl p) (hwf : m0.wf) (g : Grow c d m m') (hc : rid < c ∨ d ≤ rid) (h0 : m0.length ≤ c) : IsRd m0 m' rid b bl p := by
  refine ⟨g.pre h.pre hwf h0, h.le, g.keep rid _ h.row (by simp only [rdRow]; omega), fun j r hr ho hf => ?_, h.ints, h.low, h.len⟩
  by_cases hj : j < m.length
  · obtain ⟨r0, e1, e2, e3, _⟩ := g.old j r hj hr
    exact h.alone j r0 e1 (e3.trans ho) (e2.trans hf)
  · have := get_lt h.row
    rcases g.new j r (by omega) hr with h1 | h1 <;> omega

/-- A draw, what it changes told. -/
theorem pick_g {m0 m : Heap} {rid : Nat} {b : SV} {bl : List Int} {p n : Int} {K : XV → Heap → Prop} (h : IsRd m0 m rid b bl p) (hwf : m.wf) (hp : 0 ≤ p ∧ p < 1000000) (hn : n ≤ 1000000)
    (hK : ∀ (x : Int) (m' : Heap), 0 ≤ x → (x < n ∨ x = 0) → Grow rid (rid + 1) m m' → m'.length = m.length → IsRd m0 m' rid b bl (p + 1) → K (.one (.int .i64 x)) m') : ACalls Try.prog F.spec_l20Rd_pick [.one (.ptr rid 0), .one (.int .i64 n)] m K :=
  spec_pick h hp hn fun x h1 h2 => hK x _ h1 h2 (grow_set hwf h.row rfl rfl (Nat.le_refl _)) List.length_set (h.set _)

theorem odd_g {m0 m : Heap} {rid : Nat} {b : SV} {bl : List Int} {p n : Int} {K : XV → Heap → Prop} (h : IsRd m0 m rid b bl p) (hwf : m.wf) (hp : 0 ≤ p ∧ p < 1000000) (hn : 1 ≤ n ∧ n ≤ 1000000)
    (hK : ∀ (x : Bool) (m' : Heap), Grow rid (rid + 1) m m' → m'.length = m.length → IsRd m0 m' rid b bl (p + 1) → K (.one (.bool x)) m') : ACalls Try.prog F.spec_l20Rd_odd [.one (.ptr rid 0), .one (.int .i64 n)] m K :=
  spec_odd h hp hn fun x => hK x _ (grow_set hwf h.row rfl rfl (Nat.le_refl _)) List.length_set (h.set _)

/-- A slice of numbers in rows of families in a..b. -/
def Held (a b : Nat) (m : Heap) (s : SV) (l : List Int) : Prop :=
  s.len = l.length ∧ ∀ i, i < l.length → ∃ r, m[s.ref.id]? = some r ∧ a ≤ r.fam ∧ r.fam < b ∧ s.off + i < r.vals.len ∧ r.vals.get (s.off + i) = .int .i64 (l.getD i 0)
theorem Held.isInts {a b : Nat} {m : Heap} {s : SV} {l : List Int} (h : Held a b m s l) : IsInts .i64 m s l :=
  ⟨h.1, fun i hi => by obtain ⟨r, h1, _, _, h4, h5⟩ := h.2 i hi; rw [at_row h1 h4, h5]⟩
theorem Held.grow {a b c d : Nat} {m m' : Heap} {s : SV} {l : List Int} (h : Held a b m s l) (g : Grow c d m m') (hd : b ≤ c ∨ d ≤ a) : Held a b m' s l :=
  ⟨h.1, fun i hi => by obtain ⟨r, h1, h2, h3, h4⟩ := h.2 i hi; exact ⟨r, g.keep _ _ h1 (by omega), h2, h3, h4⟩⟩
theorem Held.mono {a b a' b' : Nat} {m : Heap} {s : SV} {l : List Int} (h : Held a b m s l) (ha : a' ≤ a) (hb : b ≤ b') : Held a' b' m s l :=
  ⟨h.1, fun i hi => by obtain ⟨r, h1, h2, h3, h4⟩ := h.2 i hi; exact ⟨r, h1, by omega, by omega, h4⟩⟩
theorem Obj.held {e : TypeId} {a b : Nat} {m : Heap} {s : SV} {l : List Int} (h : Obj e a b m s (.ints .i64 l)) : Held a b m s l := by
  refine ⟨h.len, fun i hi => ?_⟩
  rcases h with ⟨_, h0⟩ | ⟨id, f, h1, h2, rfl, h4⟩
  · simp only [Vals.len] at h0; omega
  · exact ⟨_, h4, h1, h2, by simp only [Vals.len]; omega, by simp [Vals.get]⟩
theorem Held.take {a b : Nat} {m : Heap} {s : SV} {l : List Int} (h : Held a b m s l) {n : Nat} (hn : n ≤ l.length) : Held a b m ⟨s.ref, s.off, n⟩ (l.take n) := by
  refine ⟨by simp only [List.length_take]; omega, fun i hi => ?_⟩
  rw [List.length_take] at hi
  obtain ⟨r, h1, h2, h3, h4, h5⟩ := h.2 i (by omega)
  refine ⟨r, h1, h2, h3, h4, ?_⟩
  rw [h5]
  simp only [List.getD_eq_getElem?_getD, List.getElem?_take]
  rw [if_pos (by omega)]

/-- A net and a row that were drawn, and the reader behind them. -/
structure Drawn2 (m0 m' : Heap) (rid : Nat) (b : SV) (bl : List Int) (p : Int) (s s' : SV) (net row : List Int) : Prop where
  rd : ∃ q, IsRd m0 m' rid b bl q ∧ p ≤ q ∧ q ≤ p + 300
  hnet : Held (rid + 1) m'.length m' s net
  hrow : Held (rid + 1) m'.length m' s' row
  wf : m'.wf
  six : net.length ≤ 6
  six' : row.length ≤ 6

end Go.Abs
