/- Nets gone through, part 1. Own work; no condition. -/
import Derived.Test.YtedainddipahaaaParts0
set_option maxRecDepth 100000
namespace Go.Abs.Parts
theorem eighth0 : eighth 0 = true := by decide +kernel
theorem eighth1 : eighth 1 = true := by decide +kernel
theorem nets1 : chk 1 0 0 0 = true := by decide +kernel
theorem nets2 : chk 2 0 0 0 = true := by decide +kernel
theorem nets3 : chk 3 0 0 0 = true := by decide +kernel
theorem nets4 : chk 4 0 0 0 = true := by decide +kernel
theorem nets5 : chk 5 0 0 0 = true := by decide +kernel
end Go.Abs.Parts
