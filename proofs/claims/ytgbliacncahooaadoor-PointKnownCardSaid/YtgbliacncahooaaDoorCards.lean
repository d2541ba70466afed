/-
  DERIVED. GIVEN WITH THE SEED: THE CARDS: each row of YtgbliacncahooaaDoorRows.lean that lists a variable, with what it lists TIED to the program's text (the seventh form; the later family's looks); each row that meets fmt, with fmt's text TOLD by the authors' own Lean function (tested against real Go, not proved from fmt's source: count such statements apart). THE CARD IS WHAT COUNTS. Prove the row's statement (the work); the ties are given (YtgbliacncahooaaDoorTie.lean); close each card by the builder's one call (the guide's Derived/Test/ToyasCard.lean, 'card_holds'). Laid BY PROGRAM, IN A SANDBOX (cutbox-door.mjs). By AI agents, Wed Nov 11 2026. No macro, syntax, notation, axiom, sorry.
-/
import Derived.Test.YtgbliacncahooaaDoorRows
import GoSem.ClaimSeven
namespace Go.Proofs.YtgbliacncahooaaDoor
namespace Rows

/-- THE TIED CARD OF 'shelfmarklaw8.PointAll'. -/
def pointAllCard : Claim7 := { stood := { row := pointAllRow, standIns := [], harness := (true, "ccc7570024d526e845fa3f284f62fcc46be45cbee3d32511aaa1ebfac775fdb0"), looks := false }, kinds := [], alts := [], laidByText := true, laidKinds := [.data, .data, .data], laidTests := true, laidLooks := .later }
def PointAllCardSaid : Prop := Claim7.holds Tryd.pinned (.plain (OpenSpec.ofChange pointAllSpec)) pointAllCard

/-- THE TIED CARD OF 'shelfmarklaw8.PointSums'. -/
def pointSumsCard : Claim7 := { stood := { row := pointSumsRow, standIns := [], harness := (true, "ccc7570024d526e845fa3f284f62fcc46be45cbee3d32511aaa1ebfac775fdb0"), looks := false }, kinds := [], alts := [], laidByText := true, laidKinds := [.data, .data], laidTests := true, laidLooks := .later }
def PointSumsCardSaid : Prop := Claim7.holds Tryd.pinned (.plain (OpenSpec.ofChange pointSumsSpec)) pointSumsCard

/-- THE TIED CARD OF 'shelfmarklaw8.PointLaws'. -/
def pointLawsCard : Claim7 := { stood := { row := pointLawsRow, standIns := [], harness := (true, "ccc7570024d526e845fa3f284f62fcc46be45cbee3d32511aaa1ebfac775fdb0"), looks := false }, kinds := [], alts := [], laidByText := true, laidKinds := [.data, .data], laidTests := true, laidLooks := .later }
def PointLawsCardSaid : Prop := Claim7.holds Tryd.pinned (.plain (OpenSpec.ofChange pointLawsSpec)) pointLawsCard

/-- THE TIED CARD OF 'shelfmarklaw8.PointBack'. -/
def pointBackCard : Claim7 := { stood := { row := pointBackRow, standIns := [], harness := (true, "ccc7570024d526e845fa3f284f62fcc46be45cbee3d32511aaa1ebfac775fdb0"), looks := false }, kinds := [], alts := [], laidByText := true, laidKinds := [.data, .data, .data], laidTests := true, laidLooks := .later }
def PointBackCardSaid : Prop := Claim7.holds Tryd.pinned (.plain (OpenSpec.ofChange pointBackSpec)) pointBackCard

/-- THE TIED CARD OF 'shelfmarklaw8.PointRefuses'. -/
def pointRefusesCard : Claim7 := { stood := { row := pointRefusesRow, standIns := [], harness := (true, "ccc7570024d526e845fa3f284f62fcc46be45cbee3d32511aaa1ebfac775fdb0"), looks := false }, kinds := [], alts := [], laidByText := true, laidKinds := [.data, .data, .data], laidTests := true, laidLooks := .later }
def PointRefusesCardSaid : Prop := Claim7.holds Tryd.pinned (.plain (OpenSpec.ofChange pointRefusesSpec)) pointRefusesCard

/-- THE TIED CARD OF 'shelfmarklaw8.PointKnown'. -/
def pointKnownCard : Claim7 := { stood := { row := pointKnownRow, standIns := [], harness := (true, "ccc7570024d526e845fa3f284f62fcc46be45cbee3d32511aaa1ebfac775fdb0"), looks := false }, kinds := [], alts := [], laidByText := true, laidKinds := [.data, .data], laidTests := true, laidLooks := .later }
def PointKnownCardSaid : Prop := Claim7.holds Tryd.pinned (.plain (OpenSpec.ofChange pointKnownSpec)) pointKnownCard

/-- THE TIED CARD OF 'shelfmarklaw8.PointGroups'. -/
def pointGroupsCard : Claim7 := { stood := { row := pointGroupsRow, standIns := [], harness := (true, "ccc7570024d526e845fa3f284f62fcc46be45cbee3d32511aaa1ebfac775fdb0"), looks := false }, kinds := [], alts := [], laidByText := true, laidKinds := [.data, .data], laidTests := true, laidLooks := .later }
def PointGroupsCardSaid : Prop := Claim7.holds Tryd.pinned (.plain (OpenSpec.ofChange pointGroupsSpec)) pointGroupsCard

/-- THE SECOND FORM's CARD OF 'shelfmarklaw8.PointAll'. -/
def pointAllUptoCard : Claim7 := { stood := { row := pointAllUptoRow, standIns := [], harness := (true, "ccc7570024d526e845fa3f284f62fcc46be45cbee3d32511aaa1ebfac775fdb0"), looks := false }, kinds := [], alts := [], laidByText := true, laidKinds := [.data, .data, .data], laidTests := true, laidLooks := .later }
def PointAllUptoCardSaid : Prop := Claim7.holds Tryd.pinned (.plain (OpenSpec.upto pointAllSpec)) pointAllUptoCard

/-- THE SECOND FORM's CARD OF 'shelfmarklaw8.PointSums'. -/
def pointSumsUptoCard : Claim7 := { stood := { row := pointSumsUptoRow, standIns := [], harness := (true, "ccc7570024d526e845fa3f284f62fcc46be45cbee3d32511aaa1ebfac775fdb0"), looks := false }, kinds := [], alts := [], laidByText := true, laidKinds := [.data, .data], laidTests := true, laidLooks := .later }
def PointSumsUptoCardSaid : Prop := Claim7.holds Tryd.pinned (.plain (OpenSpec.upto pointSumsSpec)) pointSumsUptoCard

/-- THE SECOND FORM's CARD OF 'shelfmarklaw8.PointLaws'. -/
def pointLawsUptoCard : Claim7 := { stood := { row := pointLawsUptoRow, standIns := [], harness := (true, "ccc7570024d526e845fa3f284f62fcc46be45cbee3d32511aaa1ebfac775fdb0"), looks := false }, kinds := [], alts := [], laidByText := true, laidKinds := [.data, .data], laidTests := true, laidLooks := .later }
def PointLawsUptoCardSaid : Prop := Claim7.holds Tryd.pinned (.plain (OpenSpec.upto pointLawsSpec)) pointLawsUptoCard

/-- THE SECOND FORM's CARD OF 'shelfmarklaw8.PointBack'. -/
def pointBackUptoCard : Claim7 := { stood := { row := pointBackUptoRow, standIns := [], harness := (true, "ccc7570024d526e845fa3f284f62fcc46be45cbee3d32511aaa1ebfac775fdb0"), looks := false }, kinds := [], alts := [], laidByText := true, laidKinds := [.data, .data, .data], laidTests := true, laidLooks := .later }
def PointBackUptoCardSaid : Prop := Claim7.holds Tryd.pinned (.plain (OpenSpec.upto pointBackSpec)) pointBackUptoCard

/-- THE SECOND FORM's CARD OF 'shelfmarklaw8.PointRefuses'. -/
def pointRefusesUptoCard : Claim7 := { stood := { row := pointRefusesUptoRow, standIns := [], harness := (true, "ccc7570024d526e845fa3f284f62fcc46be45cbee3d32511aaa1ebfac775fdb0"), looks := false }, kinds := [], alts := [], laidByText := true, laidKinds := [.data, .data, .data], laidTests := true, laidLooks := .later }
def PointRefusesUptoCardSaid : Prop := Claim7.holds Tryd.pinned (.plain (OpenSpec.upto pointRefusesSpec)) pointRefusesUptoCard

/-- THE SECOND FORM's CARD OF 'shelfmarklaw8.PointKnown'. -/
def pointKnownUptoCard : Claim7 := { stood := { row := pointKnownUptoRow, standIns := [], harness := (true, "ccc7570024d526e845fa3f284f62fcc46be45cbee3d32511aaa1ebfac775fdb0"), looks := false }, kinds := [], alts := [], laidByText := true, laidKinds := [.data, .data], laidTests := true, laidLooks := .later }
def PointKnownUptoCardSaid : Prop := Claim7.holds Tryd.pinned (.plain (OpenSpec.upto pointKnownSpec)) pointKnownUptoCard

/-- THE SECOND FORM's CARD OF 'shelfmarklaw8.PointGroups'. -/
def pointGroupsUptoCard : Claim7 := { stood := { row := pointGroupsUptoRow, standIns := [], harness := (true, "ccc7570024d526e845fa3f284f62fcc46be45cbee3d32511aaa1ebfac775fdb0"), looks := false }, kinds := [], alts := [], laidByText := true, laidKinds := [.data, .data], laidTests := true, laidLooks := .later }
def PointGroupsUptoCardSaid : Prop := Claim7.holds Tryd.pinned (.plain (OpenSpec.upto pointGroupsSpec)) pointGroupsUptoCard
end Rows
end Go.Proofs.YtgbliacncahooaaDoor
