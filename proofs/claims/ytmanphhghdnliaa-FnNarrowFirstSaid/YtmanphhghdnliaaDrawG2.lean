/- ShapeNet of both, by contracts. Own work; no condition. -/
import Derived.Test.YtmanphhghdnliaaGrow
import Derived.Test.YtmanphhghdnliaaLaws0
import Derived.Test.YtmanphhghdnliaaWire2
import Derived.Test.YtmanphhghdnliaaSpecG2
set_option maxRecDepth 100000
set_option linter.unusedSimpArgs false
set_option linter.unusedVariables false
namespace Go.Abs
open Go.Proofs
attribute [local irreducible] awp awpOps awpKeep KeepK awpKeepF KeepF aloop ALoop ACalls ACallq AQuiet retPost retPostA AExit.thn AExit.blk aApp aSt aStA

/-- The neighbours of a place of a shape. -/
def shapeNear (kind : Int) (places place : Nat) : Int :=
  if kind = 2 then (if place = 0 then bandNotInt .i64 (2 ^ places - 1) 1 else 1)
  else
    let n0 := bandInt .i64 (borInt .i64 (2 ^ place * 2) (2 ^ place / 2)) (2 ^ places - 1)
    let n1 := if kind = 1 ∧ place = 0 then borInt .i64 n0 (2 ^ (places - 1)) else n0
    if kind = 1 ∧ place = places - 1 then borInt .i64 n1 1 else n1
def shapeOk (kind places : Int) : Prop := (0 ≤ kind ∧ kind ≤ 2) ∧ (1 ≤ places ∧ places ≤ 6) ∧ ¬ (kind = 1 ∧ places < 3)
instance (kind places : Int) : Decidable (shapeOk kind places) := by unfold shapeOk; infer_instance
def shapeNet (kind places : Int) : List Int := if shapeOk kind places then (List.range places.toNat).map (shapeNear kind places.toNat) else []
theorem shapeNet_len (kind places : Int) : (shapeNet kind places).length ≤ 1048576 := by
  unfold shapeNet
  split
  · rename_i h
    have := h.2.1.2
    simp; omega
  · simp

/-- The model's way: wire by wire. -/
def shapeAt (kind : Int) (k : Nat) : Nat := if kind = 2 then 0 else k - 1
def shapeStep (kind : Int) (l : List Int) (k : Nat) : List Int :=
  (l.set k (borInt .i64 (l.getD k 0) (2 ^ shapeAt kind k))).set (shapeAt kind k) (borInt .i64 ((l.set k (borInt .i64 (l.getD k 0) (2 ^ shapeAt kind k))).getD (shapeAt kind k) 0) (2 ^ k))
def shapeTo (kind : Int) (places : Nat) : Nat → List Int
  | 0 => List.replicate places 0
  | k + 1 => shapeStep kind (shapeTo kind places k) (k + 1)
theorem shapeTo_len (kind : Int) (places : Nat) : ∀ k, (shapeTo kind places k).length = places
  | 0 => by simp [shapeTo]
  | k + 1 => by simp [shapeTo, shapeStep, shapeTo_len kind places k]
def shapeRing (l : List Int) (places : Nat) : List Int :=
  (l.set 0 (borInt .i64 (l.getD 0 0) (2 ^ (places - 1)))).set (places - 1) (borInt .i64 ((l.set 0 (borInt .i64 (l.getD 0 0) (2 ^ (places - 1)))).getD (places - 1) 0) 1)
def shapeSpec (kind : Int) (places : Nat) : List Int := if kind = 1 then shapeRing (shapeTo kind places (places - 1)) places else shapeTo kind places (places - 1)
theorem shape_same : ∀ k : Nat, k < 3 → ∀ p : Nat, p < 7 → shapeOk (k : Int) (p : Int) → shapeSpec (k : Int) p = (List.range p).map (shapeNear (k : Int) p) := by decide +kernel

theorem at_last {m : Heap} {l : List Int} {k : Nat} (hk : k < l.length) : Heap.at (m ++ [⟨Ty.int, m.length, true, .ints .i64 l⟩]) m.length k = some (.int .i64 ((l.getD k 0))) := at_row (get_last m _) hk

end Go.Abs

/- The draw of a net of few wires. Own work; no condition. -/
set_option maxRecDepth 100000
set_option linter.unusedSimpArgs false
set_option linter.unusedVariables false
namespace Go.Abs
open Go.Proofs
attribute [local irreducible] awp awpOps awpKeep KeepK awpKeepF KeepF aloop ALoop ACalls ACallq AQuiet retPost retPostA AExit.thn AExit.blk aApp aSt aStA

theorem Lists.wire_row {a b : Nat} {m : Heap} {s : SV} {net : List Int} (h : Lists a b m s (wires net)) {i : Nat} (hi : i < (wires net).length) :
    ∃ x y wi gi : Nat, m.at (s.ref.id) (s.off + i) = some (.sl ⟨.row wi, 0, 2⟩) ∧ (a ≤ gi ∧ gi < b ∧ m[wi]? = some ⟨Ty.int, gi, true, .ints .i64 [(x : Int), (y : Int)]⟩) ∧ x < net.length ∧ x < y ∧ y < net.length ∧ bit ((net.getD x 0)) y = true := by
  obtain ⟨svs, f, h1, h2, h4, h5⟩ := h
  obtain ⟨x, y, g1, g2, g3, g4, g5⟩ := wire_at hi
  obtain ⟨wi, gi, p1, p2, _, q1, q2, _⟩ := h5 i hi
  rw [g1] at q1 q2
  have h0 := ((h1.obj' h2).isSls).2 i (by omega)
  rw [q1] at h0
  exact ⟨x, y, wi, gi, h0, ⟨p1, p2, q2⟩, g2, g3, g4, g5⟩
theorem at_w0 {m : Heap} {wi gi : Nat} {x y : Int} (h : m[wi]? = some ⟨Ty.int, gi, true, .ints .i64 [x, y]⟩) : m.at wi 0 = some (.int .i64 x) := at_row h (by simp [Vals.len])
theorem at_w1 {m : Heap} {wi gi : Nat} {x y : Int} (h : m[wi]? = some ⟨Ty.int, gi, true, .ints .i64 [x, y]⟩) : m.at wi 1 = some (.int .i64 y) := at_row h (by simp [Vals.len])

end Go.Abs

/- The draws of chapter 3. Own work; no condition. -/
set_option maxRecDepth 100000
set_option linter.unusedSimpArgs false
set_option linter.unusedVariables false
namespace Go.Abs
open Go.Proofs
attribute [local irreducible] awp awpOps awpKeep KeepK awpKeepF KeepF aloop ALoop ACalls ACallq AQuiet retPost retPostA AExit.thn AExit.blk aApp aSt aStA

end Go.Abs
