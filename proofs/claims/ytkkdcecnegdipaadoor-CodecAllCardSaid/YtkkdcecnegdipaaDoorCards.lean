/-
  DERIVED. GIVEN WITH THE SEED: THE CARDS: each row of YtkkdcecnegdipaaDoorRows.lean that lists a variable, with what it lists TIED to the program's text (the seventh form; the later family's looks); each row that meets fmt, with fmt's text TOLD by the authors' own Lean function (tested against real Go, not proved from fmt's source: count such statements apart). THE CARD IS WHAT COUNTS. Prove the row's statement (the work); the ties are given (YtkkdcecnegdipaaDoorTie.lean); close each card by the builder's one call (the guide's Derived/Test/ToyasCard.lean, 'card_holds'). Laid BY PROGRAM, IN A SANDBOX (cutbox-door.mjs). By AI agents, Wed Nov 11 2026. No macro, syntax, notation, axiom, sorry.
-/
import Derived.Test.YtkkdcecnegdipaaDoorRows
import GoSem.ClaimSeven
namespace Go.Proofs.YtkkdcecnegdipaaDoor
namespace Rows

/-- THE TIED CARD OF 'shelfmarklaw5.CodecAll'. -/
def codecAllCard : Claim7 := { stood := { row := codecAllRow, standIns := [], harness := (true, "92807d280c37b7f6d4c840bfb194ffd7900f7a7be3547d45cf4b0161a96eb307"), looks := false }, kinds := [], alts := [], laidByText := true, laidKinds := [.data, .pinned], laidTests := true, laidLooks := .later }
def CodecAllCardSaid : Prop := Claim7.holds Tryd.pinned (.plain (OpenSpec.ofChange codecAllSpec)) codecAllCard

/-- THE TIED CARD OF 'shelfmarklaw5.CodecBack'. -/
def codecBackCard : Claim7 := { stood := { row := codecBackRow, standIns := [], harness := (true, "92807d280c37b7f6d4c840bfb194ffd7900f7a7be3547d45cf4b0161a96eb307"), looks := false }, kinds := [], alts := [], laidByText := true, laidKinds := [.data, .pinned], laidTests := true, laidLooks := .later }
def CodecBackCardSaid : Prop := Claim7.holds Tryd.pinned (.plain (OpenSpec.ofChange codecBackSpec)) codecBackCard

/-- THE TIED CARD OF 'shelfmarklaw5.CodecKnown'. -/
def codecKnownCard : Claim7 := { stood := { row := codecKnownRow, standIns := [], harness := (true, "92807d280c37b7f6d4c840bfb194ffd7900f7a7be3547d45cf4b0161a96eb307"), looks := false }, kinds := [], alts := [], laidByText := true, laidKinds := [.data, .pinned], laidTests := true, laidLooks := .later }
def CodecKnownCardSaid : Prop := Claim7.holds Tryd.pinned (.plain (OpenSpec.ofChange codecKnownSpec)) codecKnownCard

/-- THE SECOND FORM's CARD OF 'shelfmarklaw5.CodecAll'. -/
def codecAllUptoCard : Claim7 := { stood := { row := codecAllUptoRow, standIns := [], harness := (true, "92807d280c37b7f6d4c840bfb194ffd7900f7a7be3547d45cf4b0161a96eb307"), looks := false }, kinds := [], alts := [], laidByText := true, laidKinds := [.data, .pinned], laidTests := true, laidLooks := .later }
def CodecAllUptoCardSaid : Prop := Claim7.holds Tryd.pinned (.plain (OpenSpec.upto codecAllSpec)) codecAllUptoCard

/-- THE SECOND FORM's CARD OF 'shelfmarklaw5.CodecBack'. -/
def codecBackUptoCard : Claim7 := { stood := { row := codecBackUptoRow, standIns := [], harness := (true, "92807d280c37b7f6d4c840bfb194ffd7900f7a7be3547d45cf4b0161a96eb307"), looks := false }, kinds := [], alts := [], laidByText := true, laidKinds := [.data, .pinned], laidTests := true, laidLooks := .later }
def CodecBackUptoCardSaid : Prop := Claim7.holds Tryd.pinned (.plain (OpenSpec.upto codecBackSpec)) codecBackUptoCard

/-- THE SECOND FORM's CARD OF 'shelfmarklaw5.CodecKnown'. -/
def codecKnownUptoCard : Claim7 := { stood := { row := codecKnownUptoRow, standIns := [], harness := (true, "92807d280c37b7f6d4c840bfb194ffd7900f7a7be3547d45cf4b0161a96eb307"), looks := false }, kinds := [], alts := [], laidByText := true, laidKinds := [.data, .pinned], laidTests := true, laidLooks := .later }
def CodecKnownUptoCardSaid : Prop := Claim7.holds Tryd.pinned (.plain (OpenSpec.upto codecKnownSpec)) codecKnownUptoCard
end Rows
end Go.Proofs.YtkkdcecnegdipaaDoor
