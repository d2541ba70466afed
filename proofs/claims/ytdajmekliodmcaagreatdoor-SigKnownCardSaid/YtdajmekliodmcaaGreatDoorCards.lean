/-
  DERIVED. GIVEN WITH THE SEED: THE CARDS: each row of YtdajmekliodmcaaGreatDoorRows.lean that lists a variable, with what it lists TIED to the program's text (the seventh form; the later family's looks); each row that meets fmt, with fmt's text TOLD by the authors' own Lean function (tested against real Go, not proved from fmt's source: count such statements apart). THE CARD IS WHAT COUNTS. Prove the row's statement (the work); the ties are given (YtdajmekliodmcaaGreatDoorTie.lean); close each card by the builder's one call (the guide's Derived/Test/ToyasCard.lean, 'card_holds'). Laid BY PROGRAM, IN A SANDBOX (cutbox-door.mjs). By AI agents, Wed Nov 11 2026. No macro, syntax, notation, axiom, sorry.
-/
import Derived.Test.YtdajmekliodmcaaGreatDoorRows
import GoSem.ClaimSeven
namespace Go.Proofs.YtdajmekliodmcaaGreatDoor
namespace Rows

/-- THE TIED CARD OF 'shelfmarklaw9.SigAll'. -/
def sigAllCard : Claim7 := { stood := { row := sigAllRow, standIns := [], harness := (true, "db9fbd989c338cb534daea8328743bcf7cc6422696dc04a12fd2eede3d4d1520"), looks := false }, kinds := [], alts := [], laidByText := true, laidKinds := [.data, .data, .data, .data, .data, .pinned], laidTests := true, laidLooks := .later }
def SigAllCardSaid : Prop := Claim7.holds Tryz.pinned (.plain (OpenSpec.ofChange sigAllSpec)) sigAllCard

/-- THE TIED CARD OF 'shelfmarklaw9.SigBack'. -/
def sigBackCard : Claim7 := { stood := { row := sigBackRow, standIns := [], harness := (true, "db9fbd989c338cb534daea8328743bcf7cc6422696dc04a12fd2eede3d4d1520"), looks := false }, kinds := [], alts := [], laidByText := true, laidKinds := [.data, .data, .data, .data, .data, .pinned], laidTests := true, laidLooks := .later }
def SigBackCardSaid : Prop := Claim7.holds Tryz.pinned (.plain (OpenSpec.ofChange sigBackSpec)) sigBackCard

/-- THE TIED CARD OF 'shelfmarklaw9.SigKnown'. -/
def sigKnownCard : Claim7 := { stood := { row := sigKnownRow, standIns := [], harness := (true, "db9fbd989c338cb534daea8328743bcf7cc6422696dc04a12fd2eede3d4d1520"), looks := false }, kinds := [], alts := [], laidByText := true, laidKinds := [.data, .data, .data, .data, .data, .pinned], laidTests := true, laidLooks := .later }
def SigKnownCardSaid : Prop := Claim7.holds Tryz.pinned (.plain (OpenSpec.ofChange sigKnownSpec)) sigKnownCard

/-- THE TIED CARD OF 'shelfmarklaw9.SigTexts'. -/
def sigTextsCard : Claim7 := { stood := { row := sigTextsRow, standIns := [], harness := (true, "db9fbd989c338cb534daea8328743bcf7cc6422696dc04a12fd2eede3d4d1520"), looks := false }, kinds := [], alts := [], laidByText := true, laidKinds := [.data, .data, .data, .data, .data, .pinned], laidTests := true, laidLooks := .later }
def SigTextsCardSaid : Prop := Claim7.holds Tryz.pinned (.plain (OpenSpec.ofChange sigTextsSpec)) sigTextsCard

/-- THE TIED CARD OF 'shelfmarklaw9.SigTwice'. -/
def sigTwiceCard : Claim7 := { stood := { row := sigTwiceRow, standIns := [], harness := (true, "db9fbd989c338cb534daea8328743bcf7cc6422696dc04a12fd2eede3d4d1520"), looks := false }, kinds := [], alts := [], laidByText := true, laidKinds := [.data, .data, .data, .data, .data, .pinned], laidTests := true, laidLooks := .later }
def SigTwiceCardSaid : Prop := Claim7.holds Tryz.pinned (.plain (OpenSpec.ofChange sigTwiceSpec)) sigTwiceCard

/-- THE TIED CARD OF 'shelfmarklaw9.SigForms'. -/
def sigFormsCard : Claim7 := { stood := { row := sigFormsRow, standIns := [], harness := (true, "db9fbd989c338cb534daea8328743bcf7cc6422696dc04a12fd2eede3d4d1520"), looks := false }, kinds := [], alts := [], laidByText := true, laidKinds := [.data, .data, .data, .data, .data, .pinned], laidTests := true, laidLooks := .later }
def SigFormsCardSaid : Prop := Claim7.holds Tryz.pinned (.plain (OpenSpec.ofChange sigFormsSpec)) sigFormsCard

/-- THE SECOND FORM's CARD OF 'shelfmarklaw9.SigAll'. -/
def sigAllUptoCard : Claim7 := { stood := { row := sigAllUptoRow, standIns := [], harness := (true, "db9fbd989c338cb534daea8328743bcf7cc6422696dc04a12fd2eede3d4d1520"), looks := false }, kinds := [], alts := [], laidByText := true, laidKinds := [.data, .data, .data, .data, .data, .pinned], laidTests := true, laidLooks := .later }
def SigAllUptoCardSaid : Prop := Claim7.holds Tryz.pinned (.plain (OpenSpec.upto sigAllSpec)) sigAllUptoCard

/-- THE SECOND FORM's CARD OF 'shelfmarklaw9.SigBack'. -/
def sigBackUptoCard : Claim7 := { stood := { row := sigBackUptoRow, standIns := [], harness := (true, "db9fbd989c338cb534daea8328743bcf7cc6422696dc04a12fd2eede3d4d1520"), looks := false }, kinds := [], alts := [], laidByText := true, laidKinds := [.data, .data, .data, .data, .data, .pinned], laidTests := true, laidLooks := .later }
def SigBackUptoCardSaid : Prop := Claim7.holds Tryz.pinned (.plain (OpenSpec.upto sigBackSpec)) sigBackUptoCard

/-- THE SECOND FORM's CARD OF 'shelfmarklaw9.SigKnown'. -/
def sigKnownUptoCard : Claim7 := { stood := { row := sigKnownUptoRow, standIns := [], harness := (true, "db9fbd989c338cb534daea8328743bcf7cc6422696dc04a12fd2eede3d4d1520"), looks := false }, kinds := [], alts := [], laidByText := true, laidKinds := [.data, .data, .data, .data, .data, .pinned], laidTests := true, laidLooks := .later }
def SigKnownUptoCardSaid : Prop := Claim7.holds Tryz.pinned (.plain (OpenSpec.upto sigKnownSpec)) sigKnownUptoCard

/-- THE SECOND FORM's CARD OF 'shelfmarklaw9.SigTexts'. -/
def sigTextsUptoCard : Claim7 := { stood := { row := sigTextsUptoRow, standIns := [], harness := (true, "db9fbd989c338cb534daea8328743bcf7cc6422696dc04a12fd2eede3d4d1520"), looks := false }, kinds := [], alts := [], laidByText := true, laidKinds := [.data, .data, .data, .data, .data, .pinned], laidTests := true, laidLooks := .later }
def SigTextsUptoCardSaid : Prop := Claim7.holds Tryz.pinned (.plain (OpenSpec.upto sigTextsSpec)) sigTextsUptoCard

/-- THE SECOND FORM's CARD OF 'shelfmarklaw9.SigTwice'. -/
def sigTwiceUptoCard : Claim7 := { stood := { row := sigTwiceUptoRow, standIns := [], harness := (true, "db9fbd989c338cb534daea8328743bcf7cc6422696dc04a12fd2eede3d4d1520"), looks := false }, kinds := [], alts := [], laidByText := true, laidKinds := [.data, .data, .data, .data, .data, .pinned], laidTests := true, laidLooks := .later }
def SigTwiceUptoCardSaid : Prop := Claim7.holds Tryz.pinned (.plain (OpenSpec.upto sigTwiceSpec)) sigTwiceUptoCard

/-- THE SECOND FORM's CARD OF 'shelfmarklaw9.SigForms'. -/
def sigFormsUptoCard : Claim7 := { stood := { row := sigFormsUptoRow, standIns := [], harness := (true, "db9fbd989c338cb534daea8328743bcf7cc6422696dc04a12fd2eede3d4d1520"), looks := false }, kinds := [], alts := [], laidByText := true, laidKinds := [.data, .data, .data, .data, .data, .pinned], laidTests := true, laidLooks := .later }
def SigFormsUptoCardSaid : Prop := Claim7.holds Tryz.pinned (.plain (OpenSpec.upto sigFormsSpec)) sigFormsUptoCard
end Rows
end Go.Proofs.YtdajmekliodmcaaGreatDoor
