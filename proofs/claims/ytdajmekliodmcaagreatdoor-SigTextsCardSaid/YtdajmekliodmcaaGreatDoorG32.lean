/- Package codec's GetBase32: it tells the arithmetic's bytes, or that there are none. Its condition: a length that fits. -/
import Derived.Test.YtdajmekliodmcaaGreatDoorB32
namespace Go.Proofs.YtdajmekliodmcaaGreatDoor
open Go.RowKit Go.Shelf
set_option linter.unusedVariables false

end Go.Proofs.YtdajmekliodmcaaGreatDoor
