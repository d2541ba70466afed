/-
  NARROWER THAN 'FOR EVERY INPUT', by the rows' own cells (each row's printed sentence says how): PointAll: laid · PointSums: laid · PointLaws: laid · PointBack: laid · PointRefuses: laid · PointKnown: laid · PointGroups: laid.
  DERIVED. THE GIVEN ROWS OF THIS SEAT. 7 by the template 'for every input the law returns true; each argument reads behind the call as it read before'; 0 by the template 'total and deterministic' (their statements: YtgbliacncahooaaDoorTotals.lean).
  GIVEN WITH THE SEED: the statements are not yours to turn. If you find one false, say at which input.
  Laid BY PROGRAM, IN A SANDBOX (cutbox-rows.mjs): the forced cells as the released guide's own fill.sh prints them over the translation 6b75655b07c00ac5… (all of the seat's roots in one cut). By AI agents, Wed Nov 11 2026. No macro, syntax, notation, axiom, sorry.
-/
import Derived.Test.YtgbliacncahooaaDoorChecked
import GoSem.Claim
import GoSem.ClaimJoined
import GoSem.ClaimMapViews
import Derived.JoinedTies
import Derived.KernelRfl
namespace Go.Proofs.YtgbliacncahooaaDoor
/- THE CELL 'sum', in the pinned program and in every row, IS THE sha256 OF THE DUMP (.gsa) THAT YtgbliacncahooaaDoorProg.lean LOADS. Nothing in Lean hashes anything: it is a label: what it is worth is what the hold of that sum in a sandbox is worth. -/
noncomputable def Tryd.pinned : Pinned := { name := "ytgbliacncahooaadoor", sum := "6b75655b07c00ac55b2ef4ff268ca50388001fb3c4aaf01c855e2519dd8102ec", checked := Tryd.checked }
namespace Rows
def none {H : Type} : Left H := { results := [], args := [] }

/- WHAT THE LISTED PACKAGE-LEVEL VARIABLES READ AS WHEN THE CALL BEGINS. Each datum BY PROGRAM (the guide's laid-datum.mjs) off the statement by which the dump's own 'gosem.cut.vars' lays the variable. In a bare row this is a premise. The card (YtgbliacncahooaaDoorCards.lean) ties it to the program's text. -/
def laid_shelfmark_field_turn {H : Type} : DataW H := .agg [.lit (.int .u64 14190309331451158704), .lit (.int .u64 3405592160176694392), .lit (.int .u64 3120150775007532967), .lit (.int .u64 3135389899092516619)]
def laid_shelfmark_point_d {H : Type} : DataW H := .agg [.lit (.int .u64 8496970652267935907), .lit (.int .u64 31536524315187371), .lit (.int .u64 10144147576115030168), .lit (.int .u64 5909686906226998899)]
def laid_shelfmark_point_base {H : Type} : DataW H := .agg [.agg [.lit (.int .u64 14507833142362363162), .lit (.int .u64 7578651490590762930), .lit (.int .u64 13881468655802702940), .lit (.int .u64 2407515759118799870)], .agg [.lit (.int .u64 7378697629483820632), .lit (.int .u64 7378697629483820646), .lit (.int .u64 7378697629483820646), .lit (.int .u64 7378697629483820646)]]

/-- 'shelfmarklaw8.PointAll': WHATEVER THE INPUT: true; the input reads as it did. -/
def pointAllSpec : ChangeSpec := { name := "pointAll", fn := fun _ => fun
  | [d1, d2] => { results := [.lit (.bool true)], args := [d1, d2] }
  | _ => none }
def pointAllRow : OpenClaim := { program := "ytgbliacncahooaadoor", sum := "6b75655b07c00ac55b2ef4ff268ca50388001fb3c4aaf01c855e2519dd8102ec", func := "shelfmark/shelfmarklaw8.PointAll", spec := "pointAll", inPlace := ["math/bits.Add64", "math/bits.Sub64"], unfollowed := true, recurses := true, named := ["shelfmark/point.base", "shelfmark/point.d", "shelfmark/field.turn"], apart := false, laid := [("shelfmark/field.turn", laid_shelfmark_field_turn), ("shelfmark/point.d", laid_shelfmark_point_d), ("shelfmark/point.base", laid_shelfmark_point_base)] }
def PointAllSaid : Prop := pointAllRow.holds Tryd.pinned (OpenSpec.ofChange pointAllSpec)

/-- ITS FALSE NEIGHBOUR: 'it returns false'. Refute it at one input. -/
def pointAllWrong : ChangeSpec := { name := "pointAll", fn := fun _ => fun
  | [d1, d2] => { results := [.lit (.bool false)], args := [d1, d2] }
  | _ => none }
def PointAllWrongFalsely : Prop := pointAllRow.holds Tryd.pinned (OpenSpec.ofChange pointAllWrong)

/-- 'shelfmarklaw8.PointSums': WHATEVER THE INPUT: true; the input reads as it did. -/
def pointSumsSpec : ChangeSpec := { name := "pointSums", fn := fun _ => fun
  | [d1, d2, d3, d4, d5] => { results := [.lit (.bool true)], args := [d1, d2, d3, d4, d5] }
  | _ => none }
def pointSumsRow : OpenClaim := { program := "ytgbliacncahooaadoor", sum := "6b75655b07c00ac55b2ef4ff268ca50388001fb3c4aaf01c855e2519dd8102ec", func := "shelfmark/shelfmarklaw8.PointSums", spec := "pointSums", inPlace := ["math/bits.Add64", "math/bits.Sub64"], unfollowed := true, recurses := true, named := ["shelfmark/point.d", "shelfmark/point.base"], apart := false, laid := [("shelfmark/point.d", laid_shelfmark_point_d), ("shelfmark/point.base", laid_shelfmark_point_base)] }
def PointSumsSaid : Prop := pointSumsRow.holds Tryd.pinned (OpenSpec.ofChange pointSumsSpec)

/-- ITS FALSE NEIGHBOUR: 'it returns false'. Refute it at one input. -/
def pointSumsWrong : ChangeSpec := { name := "pointSums", fn := fun _ => fun
  | [d1, d2, d3, d4, d5] => { results := [.lit (.bool false)], args := [d1, d2, d3, d4, d5] }
  | _ => none }
def PointSumsWrongFalsely : Prop := pointSumsRow.holds Tryd.pinned (OpenSpec.ofChange pointSumsWrong)

/-- 'shelfmarklaw8.PointLaws': WHATEVER THE INPUT: true; the input reads as it did. -/
def pointLawsSpec : ChangeSpec := { name := "pointLaws", fn := fun _ => fun
  | [d1, d2, d3, d4, d5] => { results := [.lit (.bool true)], args := [d1, d2, d3, d4, d5] }
  | _ => none }
def pointLawsRow : OpenClaim := { program := "ytgbliacncahooaadoor", sum := "6b75655b07c00ac55b2ef4ff268ca50388001fb3c4aaf01c855e2519dd8102ec", func := "shelfmark/shelfmarklaw8.PointLaws", spec := "pointLaws", inPlace := ["math/bits.Add64", "math/bits.Sub64"], unfollowed := true, recurses := true, named := ["shelfmark/point.d", "shelfmark/point.base"], apart := false, laid := [("shelfmark/point.d", laid_shelfmark_point_d), ("shelfmark/point.base", laid_shelfmark_point_base)] }
def PointLawsSaid : Prop := pointLawsRow.holds Tryd.pinned (OpenSpec.ofChange pointLawsSpec)

/-- ITS FALSE NEIGHBOUR: 'it returns false'. Refute it at one input. -/
def pointLawsWrong : ChangeSpec := { name := "pointLaws", fn := fun _ => fun
  | [d1, d2, d3, d4, d5] => { results := [.lit (.bool false)], args := [d1, d2, d3, d4, d5] }
  | _ => none }
def PointLawsWrongFalsely : Prop := pointLawsRow.holds Tryd.pinned (OpenSpec.ofChange pointLawsWrong)

/-- 'shelfmarklaw8.PointBack': WHATEVER THE INPUT: true; the input reads as it did. -/
def pointBackSpec : ChangeSpec := { name := "pointBack", fn := fun _ => fun
  | [d1, d2] => { results := [.lit (.bool true)], args := [d1, d2] }
  | _ => none }
def pointBackRow : OpenClaim := { program := "ytgbliacncahooaadoor", sum := "6b75655b07c00ac55b2ef4ff268ca50388001fb3c4aaf01c855e2519dd8102ec", func := "shelfmark/shelfmarklaw8.PointBack", spec := "pointBack", inPlace := ["math/bits.Add64", "math/bits.Sub64"], unfollowed := true, recurses := true, named := ["shelfmark/point.d", "shelfmark/field.turn", "shelfmark/point.base"], apart := false, laid := [("shelfmark/field.turn", laid_shelfmark_field_turn), ("shelfmark/point.d", laid_shelfmark_point_d), ("shelfmark/point.base", laid_shelfmark_point_base)] }
def PointBackSaid : Prop := pointBackRow.holds Tryd.pinned (OpenSpec.ofChange pointBackSpec)

/-- ITS FALSE NEIGHBOUR: 'it returns false'. Refute it at one input. -/
def pointBackWrong : ChangeSpec := { name := "pointBack", fn := fun _ => fun
  | [d1, d2] => { results := [.lit (.bool false)], args := [d1, d2] }
  | _ => none }
def PointBackWrongFalsely : Prop := pointBackRow.holds Tryd.pinned (OpenSpec.ofChange pointBackWrong)

/-- 'shelfmarklaw8.PointRefuses': WHATEVER THE INPUT: true; the input reads as it did. -/
def pointRefusesSpec : ChangeSpec := { name := "pointRefuses", fn := fun _ => fun
  | [d1, d2] => { results := [.lit (.bool true)], args := [d1, d2] }
  | _ => none }
def pointRefusesRow : OpenClaim := { program := "ytgbliacncahooaadoor", sum := "6b75655b07c00ac55b2ef4ff268ca50388001fb3c4aaf01c855e2519dd8102ec", func := "shelfmark/shelfmarklaw8.PointRefuses", spec := "pointRefuses", inPlace := ["math/bits.Add64", "math/bits.Sub64"], unfollowed := true, recurses := true, named := ["shelfmark/point.d", "shelfmark/field.turn", "shelfmark/point.base"], apart := false, laid := [("shelfmark/field.turn", laid_shelfmark_field_turn), ("shelfmark/point.d", laid_shelfmark_point_d), ("shelfmark/point.base", laid_shelfmark_point_base)] }
def PointRefusesSaid : Prop := pointRefusesRow.holds Tryd.pinned (OpenSpec.ofChange pointRefusesSpec)

/-- ITS FALSE NEIGHBOUR: 'it returns false'. Refute it at one input. -/
def pointRefusesWrong : ChangeSpec := { name := "pointRefuses", fn := fun _ => fun
  | [d1, d2] => { results := [.lit (.bool false)], args := [d1, d2] }
  | _ => none }
def PointRefusesWrongFalsely : Prop := pointRefusesRow.holds Tryd.pinned (OpenSpec.ofChange pointRefusesWrong)

/-- 'shelfmarklaw8.PointKnown': WHATEVER THE INPUT: true; the input reads as it did. -/
def pointKnownSpec : ChangeSpec := { name := "pointKnown", fn := fun _ => fun
  | [d] => { results := [.lit (.bool true)], args := [d] }
  | _ => none }
def pointKnownRow : OpenClaim := { program := "ytgbliacncahooaadoor", sum := "6b75655b07c00ac55b2ef4ff268ca50388001fb3c4aaf01c855e2519dd8102ec", func := "shelfmark/shelfmarklaw8.PointKnown", spec := "pointKnown", inPlace := ["math/bits.Add64", "math/bits.Sub64"], unfollowed := true, recurses := true, named := ["shelfmark/point.base", "shelfmark/point.d"], apart := false, laid := [("shelfmark/point.d", laid_shelfmark_point_d), ("shelfmark/point.base", laid_shelfmark_point_base)] }
def PointKnownSaid : Prop := pointKnownRow.holds Tryd.pinned (OpenSpec.ofChange pointKnownSpec)

/-- ITS FALSE NEIGHBOUR: 'it returns false'. Refute it at one input. -/
def pointKnownWrong : ChangeSpec := { name := "pointKnown", fn := fun _ => fun
  | [d] => { results := [.lit (.bool false)], args := [d] }
  | _ => none }
def PointKnownWrongFalsely : Prop := pointKnownRow.holds Tryd.pinned (OpenSpec.ofChange pointKnownWrong)

/-- 'shelfmarklaw8.PointGroups': WHATEVER THE INPUT: true; the input reads as it did. -/
def pointGroupsSpec : ChangeSpec := { name := "pointGroups", fn := fun _ => fun
  | [d1, d2, d3, d4, d5] => { results := [.lit (.bool true)], args := [d1, d2, d3, d4, d5] }
  | _ => none }
def pointGroupsRow : OpenClaim := { program := "ytgbliacncahooaadoor", sum := "6b75655b07c00ac55b2ef4ff268ca50388001fb3c4aaf01c855e2519dd8102ec", func := "shelfmark/shelfmarklaw8.PointGroups", spec := "pointGroups", inPlace := ["math/bits.Add64", "math/bits.Sub64"], unfollowed := true, recurses := true, named := ["shelfmark/point.d", "shelfmark/point.base"], apart := false, laid := [("shelfmark/point.d", laid_shelfmark_point_d), ("shelfmark/point.base", laid_shelfmark_point_base)] }
def PointGroupsSaid : Prop := pointGroupsRow.holds Tryd.pinned (OpenSpec.ofChange pointGroupsSpec)

/-- ITS FALSE NEIGHBOUR: 'it returns false'. Refute it at one input. -/
def pointGroupsWrong : ChangeSpec := { name := "pointGroups", fn := fun _ => fun
  | [d1, d2, d3, d4, d5] => { results := [.lit (.bool false)], args := [d1, d2, d3, d4, d5] }
  | _ => none }
def PointGroupsWrongFalsely : Prop := pointGroupsRow.holds Tryd.pinned (OpenSpec.ofChange pointGroupsWrong)

/- THE SECOND FORM. 'bulk': how many values and letters a reading holds, each counted each time it is reached (what is shared counts as often as it is met; a slice's spare places count too). A statement '..UptoSaid' is the law's where the arguments, and the package variables that the reading takes, are together of bulk at most 1048576: NARROWER than '..Said'. Prove '..Said' where nothing that the law and all that it calls make is longer than what came in: it says more and counts as full. Else prove '..UptoSaid'. A law counts once. -/
mutual
def uptoBulk {H : Type} : DataW H → Nat
  | .lit (.string bytes) => bytes.length + 1
  | .lit _ => 1
  | .nil => 1
  | .ptr d => uptoBulk d + 1
  | .slice elems spare => uptoBulkAll elems + uptoBulkAll spare + 1
  | .agg parts => uptoBulkAll parts + 1
  | .iface _ d => uptoBulk d + 1
  | .map entries => uptoBulkEntries entries + 1
  | .held _ => 1
def uptoBulkAll {H : Type} : List (DataW H) → Nat
  | [] => 0
  | d :: r => uptoBulk d + uptoBulkAll r
def uptoBulkEntries {H : Type} : List (Lit × DataW H) → Nat
  | [] => 0
  | x :: r => uptoBulkEntry x + uptoBulkEntries r
def uptoBulkEntry {H : Type} : Lit × DataW H → Nat
  | (.string bytes, d) => bytes.length + uptoBulk d + 1
  | (_, d) => uptoBulk d + 1
 end
def uptoSmall : (H : Type) → List (DataW H) → Bool := fun _ ds => decide (uptoBulkAll ds ≤ 1048576)
def OpenSpec.upto (s : _root_.Go.ChangeSpec) : _root_.Go.OpenSpec := { _root_.Go.OpenSpec.ofChange s with cond := some uptoSmall }

/-- 'shelfmarklaw8.PointAll', WHERE WHAT IT READS IS OF BULK AT MOST 1048576: true; the input reads as it did. -/
def pointAllUptoRow : OpenClaim := { program := "ytgbliacncahooaadoor", sum := "6b75655b07c00ac55b2ef4ff268ca50388001fb3c4aaf01c855e2519dd8102ec", func := "shelfmark/shelfmarklaw8.PointAll", spec := "pointAll", inPlace := ["math/bits.Add64", "math/bits.Sub64"], unfollowed := true, recurses := true, named := ["shelfmark/point.base", "shelfmark/point.d", "shelfmark/field.turn"], apart := false, laid := [("shelfmark/field.turn", laid_shelfmark_field_turn), ("shelfmark/point.d", laid_shelfmark_point_d), ("shelfmark/point.base", laid_shelfmark_point_base)], narrowed := true }
def PointAllUptoSaid : Prop := pointAllUptoRow.holds Tryd.pinned (OpenSpec.upto pointAllSpec)

/-- 'shelfmarklaw8.PointSums', WHERE WHAT IT READS IS OF BULK AT MOST 1048576: true; the input reads as it did. -/
def pointSumsUptoRow : OpenClaim := { program := "ytgbliacncahooaadoor", sum := "6b75655b07c00ac55b2ef4ff268ca50388001fb3c4aaf01c855e2519dd8102ec", func := "shelfmark/shelfmarklaw8.PointSums", spec := "pointSums", inPlace := ["math/bits.Add64", "math/bits.Sub64"], unfollowed := true, recurses := true, named := ["shelfmark/point.d", "shelfmark/point.base"], apart := false, laid := [("shelfmark/point.d", laid_shelfmark_point_d), ("shelfmark/point.base", laid_shelfmark_point_base)], narrowed := true }
def PointSumsUptoSaid : Prop := pointSumsUptoRow.holds Tryd.pinned (OpenSpec.upto pointSumsSpec)

/-- 'shelfmarklaw8.PointLaws', WHERE WHAT IT READS IS OF BULK AT MOST 1048576: true; the input reads as it did. -/
def pointLawsUptoRow : OpenClaim := { program := "ytgbliacncahooaadoor", sum := "6b75655b07c00ac55b2ef4ff268ca50388001fb3c4aaf01c855e2519dd8102ec", func := "shelfmark/shelfmarklaw8.PointLaws", spec := "pointLaws", inPlace := ["math/bits.Add64", "math/bits.Sub64"], unfollowed := true, recurses := true, named := ["shelfmark/point.d", "shelfmark/point.base"], apart := false, laid := [("shelfmark/point.d", laid_shelfmark_point_d), ("shelfmark/point.base", laid_shelfmark_point_base)], narrowed := true }
def PointLawsUptoSaid : Prop := pointLawsUptoRow.holds Tryd.pinned (OpenSpec.upto pointLawsSpec)

/-- 'shelfmarklaw8.PointBack', WHERE WHAT IT READS IS OF BULK AT MOST 1048576: true; the input reads as it did. -/
def pointBackUptoRow : OpenClaim := { program := "ytgbliacncahooaadoor", sum := "6b75655b07c00ac55b2ef4ff268ca50388001fb3c4aaf01c855e2519dd8102ec", func := "shelfmark/shelfmarklaw8.PointBack", spec := "pointBack", inPlace := ["math/bits.Add64", "math/bits.Sub64"], unfollowed := true, recurses := true, named := ["shelfmark/point.d", "shelfmark/field.turn", "shelfmark/point.base"], apart := false, laid := [("shelfmark/field.turn", laid_shelfmark_field_turn), ("shelfmark/point.d", laid_shelfmark_point_d), ("shelfmark/point.base", laid_shelfmark_point_base)], narrowed := true }
def PointBackUptoSaid : Prop := pointBackUptoRow.holds Tryd.pinned (OpenSpec.upto pointBackSpec)

/-- 'shelfmarklaw8.PointRefuses', WHERE WHAT IT READS IS OF BULK AT MOST 1048576: true; the input reads as it did. -/
def pointRefusesUptoRow : OpenClaim := { program := "ytgbliacncahooaadoor", sum := "6b75655b07c00ac55b2ef4ff268ca50388001fb3c4aaf01c855e2519dd8102ec", func := "shelfmark/shelfmarklaw8.PointRefuses", spec := "pointRefuses", inPlace := ["math/bits.Add64", "math/bits.Sub64"], unfollowed := true, recurses := true, named := ["shelfmark/point.d", "shelfmark/field.turn", "shelfmark/point.base"], apart := false, laid := [("shelfmark/field.turn", laid_shelfmark_field_turn), ("shelfmark/point.d", laid_shelfmark_point_d), ("shelfmark/point.base", laid_shelfmark_point_base)], narrowed := true }
def PointRefusesUptoSaid : Prop := pointRefusesUptoRow.holds Tryd.pinned (OpenSpec.upto pointRefusesSpec)

/-- 'shelfmarklaw8.PointKnown', WHERE WHAT IT READS IS OF BULK AT MOST 1048576: true; the input reads as it did. -/
def pointKnownUptoRow : OpenClaim := { program := "ytgbliacncahooaadoor", sum := "6b75655b07c00ac55b2ef4ff268ca50388001fb3c4aaf01c855e2519dd8102ec", func := "shelfmark/shelfmarklaw8.PointKnown", spec := "pointKnown", inPlace := ["math/bits.Add64", "math/bits.Sub64"], unfollowed := true, recurses := true, named := ["shelfmark/point.base", "shelfmark/point.d"], apart := false, laid := [("shelfmark/point.d", laid_shelfmark_point_d), ("shelfmark/point.base", laid_shelfmark_point_base)], narrowed := true }
def PointKnownUptoSaid : Prop := pointKnownUptoRow.holds Tryd.pinned (OpenSpec.upto pointKnownSpec)

/-- 'shelfmarklaw8.PointGroups', WHERE WHAT IT READS IS OF BULK AT MOST 1048576: true; the input reads as it did. -/
def pointGroupsUptoRow : OpenClaim := { program := "ytgbliacncahooaadoor", sum := "6b75655b07c00ac55b2ef4ff268ca50388001fb3c4aaf01c855e2519dd8102ec", func := "shelfmark/shelfmarklaw8.PointGroups", spec := "pointGroups", inPlace := ["math/bits.Add64", "math/bits.Sub64"], unfollowed := true, recurses := true, named := ["shelfmark/point.d", "shelfmark/point.base"], apart := false, laid := [("shelfmark/point.d", laid_shelfmark_point_d), ("shelfmark/point.base", laid_shelfmark_point_base)], narrowed := true }
def PointGroupsUptoSaid : Prop := pointGroupsUptoRow.holds Tryd.pinned (OpenSpec.upto pointGroupsSpec)

end Rows
end Go.Proofs.YtgbliacncahooaaDoor
