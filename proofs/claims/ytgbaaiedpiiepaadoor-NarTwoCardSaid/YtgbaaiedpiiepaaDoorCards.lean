/-
  DERIVED. GIVEN WITH THE SEED: THE CARDS: each row of YtgbaaiedpiiepaaDoorRows.lean that lists a variable, with what it lists TIED to the program's text (the seventh form; the later family's looks); each row that meets fmt, with fmt's text TOLD by the authors' own Lean function (tested against real Go, not proved from fmt's source: count such statements apart). THE CARD IS WHAT COUNTS. Prove the row's statement (the work); the ties are given (YtgbaaiedpiiepaaDoorTie.lean); close each card by the builder's one call (the guide's Derived/Test/ToyasCard.lean, 'card_holds'). Laid BY PROGRAM, IN A SANDBOX (cutbox-door.mjs). By AI agents, Wed Nov 11 2026. No macro, syntax, notation, axiom, sorry.
-/
import Derived.Test.YtgbaaiedpiiepaaDoorRows
import GoSem.ClaimSeven
namespace Go.Proofs.YtgbaaiedpiiepaaDoor
namespace Rows

/-- THE TIED CARD OF 'shelfmarklaw10.NarAll'. -/
def narAllCard : Claim7 := { stood := { row := narAllRow, standIns := [], harness := (true, "e2c7c96504d41a710f767f6f6bf7b96c3cc52b98161c78da43db4f5ee08f1e7a"), looks := false }, kinds := [], alts := [], laidByText := true, laidKinds := [.data, .pinned], laidTests := true, laidLooks := .later }
def NarAllCardSaid : Prop := Claim7.holds Tryd.pinned (.plain (OpenSpec.ofChange narAllSpec)) narAllCard

/-- THE TIED CARD OF 'shelfmarklaw10.NarMade'. -/
def narMadeCard : Claim7 := { stood := { row := narMadeRow, standIns := [], harness := (true, "e2c7c96504d41a710f767f6f6bf7b96c3cc52b98161c78da43db4f5ee08f1e7a"), looks := false }, kinds := [], alts := [], laidByText := true, laidKinds := [.data, .pinned], laidTests := true, laidLooks := .later }
def NarMadeCardSaid : Prop := Claim7.holds Tryd.pinned (.plain (OpenSpec.ofChange narMadeSpec)) narMadeCard

/-- THE TIED CARD OF 'shelfmarklaw10.NarTwo'. -/
def narTwoCard : Claim7 := { stood := { row := narTwoRow, standIns := [], harness := (true, "e2c7c96504d41a710f767f6f6bf7b96c3cc52b98161c78da43db4f5ee08f1e7a"), looks := false }, kinds := [], alts := [], laidByText := true, laidKinds := [.data, .pinned], laidTests := true, laidLooks := .later }
def NarTwoCardSaid : Prop := Claim7.holds Tryd.pinned (.plain (OpenSpec.ofChange narTwoSpec)) narTwoCard

/-- THE TIED CARD OF 'shelfmarklaw10.NarRefuses'. -/
def narRefusesCard : Claim7 := { stood := { row := narRefusesRow, standIns := [], harness := (true, "e2c7c96504d41a710f767f6f6bf7b96c3cc52b98161c78da43db4f5ee08f1e7a"), looks := false }, kinds := [], alts := [], laidByText := true, laidKinds := [.data, .pinned], laidTests := true, laidLooks := .later }
def NarRefusesCardSaid : Prop := Claim7.holds Tryd.pinned (.plain (OpenSpec.ofChange narRefusesSpec)) narRefusesCard

/-- THE TIED CARD OF 'shelfmarklaw10.NarKnown'. -/
def narKnownCard : Claim7 := { stood := { row := narKnownRow, standIns := [], harness := (true, "e2c7c96504d41a710f767f6f6bf7b96c3cc52b98161c78da43db4f5ee08f1e7a"), looks := false }, kinds := [], alts := [], laidByText := true, laidKinds := [.data, .pinned], laidTests := true, laidLooks := .later }
def NarKnownCardSaid : Prop := Claim7.holds Tryd.pinned (.plain (OpenSpec.ofChange narKnownSpec)) narKnownCard

/-- THE TIED CARD OF 'shelfmarklaw10.NarTexts'. -/
def narTextsCard : Claim7 := { stood := { row := narTextsRow, standIns := [], harness := (true, "e2c7c96504d41a710f767f6f6bf7b96c3cc52b98161c78da43db4f5ee08f1e7a"), looks := false }, kinds := [], alts := [], laidByText := true, laidKinds := [.data, .pinned], laidTests := true, laidLooks := .later }
def NarTextsCardSaid : Prop := Claim7.holds Tryd.pinned (.plain (OpenSpec.ofChange narTextsSpec)) narTextsCard

/-- THE TIED CARD OF 'shelfmarklaw10.NarLimits'. -/
def narLimitsCard : Claim7 := { stood := { row := narLimitsRow, standIns := [], harness := (true, "e2c7c96504d41a710f767f6f6bf7b96c3cc52b98161c78da43db4f5ee08f1e7a"), looks := false }, kinds := [], alts := [], laidByText := true, laidKinds := [.data, .pinned], laidTests := true, laidLooks := .later }
def NarLimitsCardSaid : Prop := Claim7.holds Tryd.pinned (.plain (OpenSpec.ofChange narLimitsSpec)) narLimitsCard

/-- THE SECOND FORM's CARD OF 'shelfmarklaw10.NarAll'. -/
def narAllUptoCard : Claim7 := { stood := { row := narAllUptoRow, standIns := [], harness := (true, "e2c7c96504d41a710f767f6f6bf7b96c3cc52b98161c78da43db4f5ee08f1e7a"), looks := false }, kinds := [], alts := [], laidByText := true, laidKinds := [.data, .pinned], laidTests := true, laidLooks := .later }
def NarAllUptoCardSaid : Prop := Claim7.holds Tryd.pinned (.plain (OpenSpec.upto narAllSpec)) narAllUptoCard

/-- THE SECOND FORM's CARD OF 'shelfmarklaw10.NarMade'. -/
def narMadeUptoCard : Claim7 := { stood := { row := narMadeUptoRow, standIns := [], harness := (true, "e2c7c96504d41a710f767f6f6bf7b96c3cc52b98161c78da43db4f5ee08f1e7a"), looks := false }, kinds := [], alts := [], laidByText := true, laidKinds := [.data, .pinned], laidTests := true, laidLooks := .later }
def NarMadeUptoCardSaid : Prop := Claim7.holds Tryd.pinned (.plain (OpenSpec.upto narMadeSpec)) narMadeUptoCard

/-- THE SECOND FORM's CARD OF 'shelfmarklaw10.NarTwo'. -/
def narTwoUptoCard : Claim7 := { stood := { row := narTwoUptoRow, standIns := [], harness := (true, "e2c7c96504d41a710f767f6f6bf7b96c3cc52b98161c78da43db4f5ee08f1e7a"), looks := false }, kinds := [], alts := [], laidByText := true, laidKinds := [.data, .pinned], laidTests := true, laidLooks := .later }
def NarTwoUptoCardSaid : Prop := Claim7.holds Tryd.pinned (.plain (OpenSpec.upto narTwoSpec)) narTwoUptoCard

/-- THE SECOND FORM's CARD OF 'shelfmarklaw10.NarRefuses'. -/
def narRefusesUptoCard : Claim7 := { stood := { row := narRefusesUptoRow, standIns := [], harness := (true, "e2c7c96504d41a710f767f6f6bf7b96c3cc52b98161c78da43db4f5ee08f1e7a"), looks := false }, kinds := [], alts := [], laidByText := true, laidKinds := [.data, .pinned], laidTests := true, laidLooks := .later }
def NarRefusesUptoCardSaid : Prop := Claim7.holds Tryd.pinned (.plain (OpenSpec.upto narRefusesSpec)) narRefusesUptoCard

/-- THE SECOND FORM's CARD OF 'shelfmarklaw10.NarKnown'. -/
def narKnownUptoCard : Claim7 := { stood := { row := narKnownUptoRow, standIns := [], harness := (true, "e2c7c96504d41a710f767f6f6bf7b96c3cc52b98161c78da43db4f5ee08f1e7a"), looks := false }, kinds := [], alts := [], laidByText := true, laidKinds := [.data, .pinned], laidTests := true, laidLooks := .later }
def NarKnownUptoCardSaid : Prop := Claim7.holds Tryd.pinned (.plain (OpenSpec.upto narKnownSpec)) narKnownUptoCard

/-- THE SECOND FORM's CARD OF 'shelfmarklaw10.NarTexts'. -/
def narTextsUptoCard : Claim7 := { stood := { row := narTextsUptoRow, standIns := [], harness := (true, "e2c7c96504d41a710f767f6f6bf7b96c3cc52b98161c78da43db4f5ee08f1e7a"), looks := false }, kinds := [], alts := [], laidByText := true, laidKinds := [.data, .pinned], laidTests := true, laidLooks := .later }
def NarTextsUptoCardSaid : Prop := Claim7.holds Tryd.pinned (.plain (OpenSpec.upto narTextsSpec)) narTextsUptoCard

/-- THE SECOND FORM's CARD OF 'shelfmarklaw10.NarLimits'. -/
def narLimitsUptoCard : Claim7 := { stood := { row := narLimitsUptoRow, standIns := [], harness := (true, "e2c7c96504d41a710f767f6f6bf7b96c3cc52b98161c78da43db4f5ee08f1e7a"), looks := false }, kinds := [], alts := [], laidByText := true, laidKinds := [.data, .pinned], laidTests := true, laidLooks := .later }
def NarLimitsUptoCardSaid : Prop := Claim7.holds Tryd.pinned (.plain (OpenSpec.upto narLimitsSpec)) narLimitsUptoCard
end Rows
end Go.Proofs.YtgbaaiedpiiepaaDoor
