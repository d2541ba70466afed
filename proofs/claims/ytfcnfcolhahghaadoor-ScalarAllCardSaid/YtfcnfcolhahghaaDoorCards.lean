/-
  DERIVED. GIVEN WITH THE SEED: THE CARDS: each row of YtfcnfcolhahghaaDoorRows.lean that lists a variable, with what it lists TIED to the program's text (the seventh form; the later family's looks); each row that meets fmt, with fmt's text TOLD by the authors' own Lean function (tested against real Go, not proved from fmt's source: count such statements apart). THE CARD IS WHAT COUNTS. Prove the row's statement (the work); the ties are given (YtfcnfcolhahghaaDoorTie.lean); close each card by the builder's one call (the guide's Derived/Test/ToyasCard.lean, 'card_holds'). Laid BY PROGRAM, IN A SANDBOX (cutbox-door.mjs). By AI agents, Wed Nov 11 2026. No macro, syntax, notation, axiom, sorry.
-/
import Derived.Test.YtfcnfcolhahghaaDoorRows
import GoSem.ClaimSeven
namespace Go.Proofs.YtfcnfcolhahghaaDoor
namespace Rows

/-- THE TIED CARD OF 'shelfmarklaw7.ScalarAll'. -/
def scalarAllCard : Claim7 := { stood := { row := scalarAllRow, standIns := [], harness := (true, "06dd966b965358bdb45b40ddced12b94b64c241fd8c32ef4762416a9a0927649"), looks := false }, kinds := [], alts := [], laidByText := true, laidKinds := [.data], laidTests := true, laidLooks := .later }
def ScalarAllCardSaid : Prop := Claim7.holds Tryd.pinned (.plain (OpenSpec.ofChange scalarAllSpec)) scalarAllCard

/-- THE TIED CARD OF 'shelfmarklaw7.ScalarLaws'. -/
def scalarLawsCard : Claim7 := { stood := { row := scalarLawsRow, standIns := [], harness := (true, "06dd966b965358bdb45b40ddced12b94b64c241fd8c32ef4762416a9a0927649"), looks := false }, kinds := [], alts := [], laidByText := true, laidKinds := [.data], laidTests := true, laidLooks := .later }
def ScalarLawsCardSaid : Prop := Claim7.holds Tryd.pinned (.plain (OpenSpec.ofChange scalarLawsSpec)) scalarLawsCard

/-- THE TIED CARD OF 'shelfmarklaw7.ScalarBack'. -/
def scalarBackCard : Claim7 := { stood := { row := scalarBackRow, standIns := [], harness := (true, "06dd966b965358bdb45b40ddced12b94b64c241fd8c32ef4762416a9a0927649"), looks := false }, kinds := [], alts := [], laidByText := true, laidKinds := [.data], laidTests := true, laidLooks := .later }
def ScalarBackCardSaid : Prop := Claim7.holds Tryd.pinned (.plain (OpenSpec.ofChange scalarBackSpec)) scalarBackCard

/-- THE TIED CARD OF 'shelfmarklaw7.ScalarEdges'. -/
def scalarEdgesCard : Claim7 := { stood := { row := scalarEdgesRow, standIns := [], harness := (true, "06dd966b965358bdb45b40ddced12b94b64c241fd8c32ef4762416a9a0927649"), looks := false }, kinds := [], alts := [], laidByText := true, laidKinds := [.data], laidTests := true, laidLooks := .later }
def ScalarEdgesCardSaid : Prop := Claim7.holds Tryd.pinned (.plain (OpenSpec.ofChange scalarEdgesSpec)) scalarEdgesCard

/-- THE SECOND FORM's CARD OF 'shelfmarklaw7.ScalarAll'. -/
def scalarAllUptoCard : Claim7 := { stood := { row := scalarAllUptoRow, standIns := [], harness := (true, "06dd966b965358bdb45b40ddced12b94b64c241fd8c32ef4762416a9a0927649"), looks := false }, kinds := [], alts := [], laidByText := true, laidKinds := [.data], laidTests := true, laidLooks := .later }
def ScalarAllUptoCardSaid : Prop := Claim7.holds Tryd.pinned (.plain (OpenSpec.upto scalarAllSpec)) scalarAllUptoCard

/-- THE SECOND FORM's CARD OF 'shelfmarklaw7.ScalarLaws'. -/
def scalarLawsUptoCard : Claim7 := { stood := { row := scalarLawsUptoRow, standIns := [], harness := (true, "06dd966b965358bdb45b40ddced12b94b64c241fd8c32ef4762416a9a0927649"), looks := false }, kinds := [], alts := [], laidByText := true, laidKinds := [.data], laidTests := true, laidLooks := .later }
def ScalarLawsUptoCardSaid : Prop := Claim7.holds Tryd.pinned (.plain (OpenSpec.upto scalarLawsSpec)) scalarLawsUptoCard

/-- THE SECOND FORM's CARD OF 'shelfmarklaw7.ScalarBack'. -/
def scalarBackUptoCard : Claim7 := { stood := { row := scalarBackUptoRow, standIns := [], harness := (true, "06dd966b965358bdb45b40ddced12b94b64c241fd8c32ef4762416a9a0927649"), looks := false }, kinds := [], alts := [], laidByText := true, laidKinds := [.data], laidTests := true, laidLooks := .later }
def ScalarBackUptoCardSaid : Prop := Claim7.holds Tryd.pinned (.plain (OpenSpec.upto scalarBackSpec)) scalarBackUptoCard

/-- THE SECOND FORM's CARD OF 'shelfmarklaw7.ScalarEdges'. -/
def scalarEdgesUptoCard : Claim7 := { stood := { row := scalarEdgesUptoRow, standIns := [], harness := (true, "06dd966b965358bdb45b40ddced12b94b64c241fd8c32ef4762416a9a0927649"), looks := false }, kinds := [], alts := [], laidByText := true, laidKinds := [.data], laidTests := true, laidLooks := .later }
def ScalarEdgesUptoCardSaid : Prop := Claim7.holds Tryd.pinned (.plain (OpenSpec.upto scalarEdgesSpec)) scalarEdgesUptoCard
end Rows
end Go.Proofs.YtfcnfcolhahghaaDoor
