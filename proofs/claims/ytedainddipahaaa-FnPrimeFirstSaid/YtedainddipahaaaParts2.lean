/- Nets gone through, part 2. Own work; no condition. -/
import Derived.Test.YtedainddipahaaaParts0
set_option maxRecDepth 100000
namespace Go.Abs.Parts
theorem eighth2 : eighth 2 = true := by decide +kernel
theorem eighth3 : eighth 3 = true := by decide +kernel
end Go.Abs.Parts
