/- Package codec's Base32 and GetBase32: they tell the arithmetic's letters, and bytes. Their condition: a length that fits. -/
import Derived.Test.YtdajmekliodmcaaGreatDoorHexA
namespace Go.Proofs.YtdajmekliodmcaaGreatDoor
open Go.RowKit Go.Shelf
set_option linter.unusedVariables false

end Go.Proofs.YtdajmekliodmcaaGreatDoor
