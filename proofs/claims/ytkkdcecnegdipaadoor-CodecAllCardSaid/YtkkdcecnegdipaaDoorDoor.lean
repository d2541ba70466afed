/- What the listed variables' condition needs at the door: the two tables that strings lays stand there as the program's text lays them. No law of this seat reads them. -/
import Derived.Test.YtkkdcecnegdipaaDoorTie
import Derived.Test.YtkkdcecnegdipaaDoorCards
import Derived.ProofKit
import Derived.LaidMore
import Derived.LaidHandle
import Derived.LaidLaws
import Derived.OpenShut
import Derived.ChangeArms
import Derived.Lay
import Derived.Stop.Joined
namespace Go.Proofs.YtkkdcecnegdipaaDoor
open Go.ChangeShapes Go.WideShapes Go.RowKit
set_option linter.unusedVariables false
def laidL : List (String × DataW Unit) := Rows.codecAllRow.laid
def Glob (_ : World) : Prop := True
theorem glob_of_laid {W : World} (h : laidMetH Tryd.prog laidL W) : Glob W := trivial
theorem door_met {W : World} (h : laidMet Tryd.prog laidL W) : laidMetH Tryd.prog laidL W := by rw [MakeChecks.laidMetH_plain _ _ _ (by kernel_rfl)]; exact h
theorem laid_met (os : Os) (args : Array Value) : laidMetH Tryd.prog laidL ((World.laidAll Tryd.prog os laidL).forCall (fun _ _ => 0) ⟨#[], args, []⟩).memory := by
  rw [MakeChecks.laidMetH_plain _ _ _ (by kernel_rfl)]; exact laidMet_laidAll _ (by kernel_rfl) (by kernel_rfl)
theorem laid_shaped (os : Os) : (World.laidAll Tryd.prog os laidL).os = os := World.laidAll_os _ _ _
end Go.Proofs.YtkkdcecnegdipaaDoor
