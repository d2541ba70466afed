/-
  DERIVED. GIVEN WITH THE SEED: THE CARDS: each row of YtdbbcngolcnniaaGreatDoorRows.lean that lists a variable, with what it lists TIED to the program's text (the seventh form; the later family's looks); each row that meets fmt, with fmt's text TOLD by the authors' own Lean function (tested against real Go, not proved from fmt's source: count such statements apart). THE CARD IS WHAT COUNTS. Prove the row's statement (the work); the ties are given (YtdbbcngolcnniaaGreatDoorTie.lean); close each card by the builder's one call (the guide's Derived/Test/ToyasCard.lean, 'card_holds'). Laid BY PROGRAM, IN A SANDBOX (cutbox-door.mjs). By AI agents, Wed Nov 11 2026. No macro, syntax, notation, axiom, sorry.
-/
import Derived.Test.YtdbbcngolcnniaaGreatDoorRows
import GoSem.ClaimSeven
namespace Go.Proofs.YtdbbcngolcnniaaGreatDoor
namespace Rows

/-- THE TIED CARD OF 'shelfmarklaw13.PathModulo'. -/
def pathModuloCard : Claim7 := { stood := { row := pathModuloRow, standIns := [], harness := (true, "a019080e83ce9eeb32827e83d8e7c4b04106ab049f4ab76c662f7e99b0073d81"), looks := false }, kinds := [], alts := [], laidByText := true, laidKinds := [.data, .data, .data, .data, .data], laidTests := true, laidLooks := .later }
def PathModuloCardSaid : Prop := Claim7.holds Tryz.pinned (.plain (OpenSpec.ofChange pathModuloSpec)) pathModuloCard

/-- THE SECOND FORM's CARD OF 'shelfmarklaw13.PathModulo'. -/
def pathModuloUptoCard : Claim7 := { stood := { row := pathModuloUptoRow, standIns := [], harness := (true, "a019080e83ce9eeb32827e83d8e7c4b04106ab049f4ab76c662f7e99b0073d81"), looks := false }, kinds := [], alts := [], laidByText := true, laidKinds := [.data, .data, .data, .data, .data], laidTests := true, laidLooks := .later }
def PathModuloUptoCardSaid : Prop := Claim7.holds Tryz.pinned (.plain (OpenSpec.upto pathModuloSpec)) pathModuloUptoCard
end Rows
end Go.Proofs.YtdbbcngolcnniaaGreatDoor
