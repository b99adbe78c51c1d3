/- Nets gone through, part 4. Own work; no condition. -/
import Derived.Test.YtedainddipahaaaParts0
set_option maxRecDepth 100000
namespace Go.Abs.Parts
theorem eighth6 : eighth 6 = true := by decide +kernel
theorem eighth7 : eighth 7 = true := by decide +kernel
end Go.Abs.Parts
