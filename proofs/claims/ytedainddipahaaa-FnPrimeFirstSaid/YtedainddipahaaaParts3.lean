/- Nets gone through, part 3. Own work; no condition. -/
import Derived.Test.YtedainddipahaaaParts0
set_option maxRecDepth 100000
namespace Go.Abs.Parts
theorem eighth4 : eighth 4 = true := by decide +kernel
theorem eighth5 : eighth 5 = true := by decide +kernel
end Go.Abs.Parts
