/- Hex of the document: the letters of bytes. No condition but that there are up to a thousand. -/
import Derived.Test.YtdajmekliodmcaaGreatDoorRPlace
import Derived.Deep.RegionLaw
import Derived.BigRegion
namespace Go.Proofs.YtdajmekliodmcaaGreatDoor.R
open Go.RowKit
set_option linter.unusedVariables false
set_option linter.unusedSimpArgs false
theorem conv_nil (w : World) : (Go.convert 33 9 (.slice none 0 0)).run Tryz.prog w = .ok (.string ⟨#[]⟩) w := by kernel_rfl
end Go.Proofs.YtdajmekliodmcaaGreatDoor.R
