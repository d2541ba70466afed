/- The list of the tied variables of this seat, for laws that read none of them. -/
import Derived.Test.YtgbaaiedpiiepaaDoorTie
import Derived.Test.YtgbaaiedpiiepaaDoorCards
import Derived.ProofKit
import Derived.LaidMore
import Derived.LaidHandle
import Derived.LaidLaws
import Derived.OpenShut
import Derived.ChangeArms
import Derived.Lay
import Derived.Stop.Joined
namespace Go.Proofs.YtgbaaiedpiiepaaDoor
open Go.ChangeShapes Go.WideShapes Go.RowKit
set_option linter.unusedVariables false
def laid0 : List (String × DataW Unit) := Rows.narAllRow.laid
def Glob0 (_ : World) : Prop := True
theorem glob0_of_laid {W : World} (h : laidMetH Tryd.prog laid0 W) : Glob0 W := trivial
end Go.Proofs.YtgbaaiedpiiepaaDoor
