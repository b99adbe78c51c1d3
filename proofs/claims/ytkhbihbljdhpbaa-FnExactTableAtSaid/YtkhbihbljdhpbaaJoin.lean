/- What the statement asks of the head of the translation, told by its words. Own work; no condition. -/
import Derived.JoinedOf
import Derived.JoinedAt
import Derived.KernelRfl
namespace Go.Abs

theorem strip_cut (rest : List (List Char)) : stripLifts liftWords ("cut".toList :: rest) = ([], "cut".toList :: rest) := by kernel_rfl
theorem cut_not_gc : ("cut".toList == "gc".toList) = false := by kernel_rfl
theorem cut_not_spec : ("cut".toList == "spec".toList) = false := by kernel_rfl
theorem cut_not_carried : ("cut".toList == "carried".toList) = false := by kernel_rfl
theorem cut_cut : ("cut".toList == "cut".toList) = true := by kernel_rfl

section
variable {P : Program} {rest : List (List Char)} (h : behindMainWord (wordsSigns P.initOrder.toList) = "cut".toList :: rest)
include h

theorem make_of : P.make = some .cut := by
  unfold Program.make
  rw [h]
  generalize hc : "cut".toList = c at *
  simp only [← hc, cut_not_gc, cut_not_spec, cut_cut, Bool.or_self, Bool.true_or, if_true, Bool.false_eq_true, if_false]

theorem mayEnter_of (h1 : P.doorFits [] = true) (h2 : P.laysLater = false) (h3 : P.bearsReflect = false) : P.mayEnter = true := by
  unfold Program.mayEnter
  rw [h]
  dsimp only
  rw [strip_cut]
  have e : (("cut".toList :: rest).head? == some "cut".toList) = true := by simp
  simp only [e, h1, h2, h3, Bool.not_false, Bool.or_true, Bool.and_true, List.contains_nil]

theorem liftsFinal_of : P.liftsFinal = false := by
  unfold Program.liftsFinal Program.headLifts
  rw [h]
  dsimp only
  rw [strip_cut]
  have e : (("cut".toList :: rest).head? == some "cut".toList) = true := by simp
  have e2 : (("cut".toList :: rest).head? == some "carried".toList) = false := cut_not_carried
  simp only [e, e2, Bool.false_and, if_true, List.contains_nil, Bool.or_false]
end
end Go.Abs
