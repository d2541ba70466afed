/-
  NARROWER THAN 'FOR EVERY INPUT', by the rows' own cells (each row's printed sentence says how): SigAll: laid · SigBack: laid · SigKnown: laid · SigTexts: laid · SigTwice: laid · SigForms: laid.
  DERIVED. THE GIVEN ROWS OF THIS SEAT. 6 by the template 'for every input the law returns true; each argument reads behind the call as it read before'; 0 by the template 'total and deterministic' (their statements: YtdajmekliodmcaaGreatDoorTotals.lean).
  GIVEN WITH THE SEED: the statements are not yours to turn. If you find one false, say at which input.
  Laid BY PROGRAM, IN A SANDBOX (cutbox-rows.mjs): the forced cells as the released guide's own fill.sh prints them over the translation b2734577fa7cc2fa… (all of the seat's roots in one cut). By AI agents, Wed Nov 11 2026. No macro, syntax, notation, axiom, sorry.
-/
import Derived.Test.YtdajmekliodmcaaGreatDoorChecked
import GoSem.PinnedTables
import GoSem.Claim
import GoSem.ClaimJoined
import GoSem.ClaimMapViews
import Derived.JoinedTies
import Derived.KernelRfl
namespace Go.Proofs.YtdajmekliodmcaaGreatDoor
/- THE CELL 'sum', in the pinned program and in every row, IS THE sha256 OF THE DUMP (.gsa) THAT YtdajmekliodmcaaGreatDoorProg.lean LOADS. Nothing in Lean hashes anything: it is a label: what it is worth is what the hold of that sum in a sandbox is worth. -/
noncomputable def Tryz.pinned : Pinned := { name := "ytdajmekliodmcaagreatdoor", sum := "b2734577fa7cc2fac32feba76e230f5016999258436b2be0d182c317f6367815", checked := Tryz.checked }
namespace Rows
def none {H : Type} : Left H := { results := [], args := [] }

/- WHAT THE LISTED PACKAGE-LEVEL VARIABLES READ AS WHEN THE CALL BEGINS. Each datum BY PROGRAM (the guide's laid-datum.mjs) off the statement by which the dump's own 'gosem.cut.vars' lays the variable. In a bare row this is a premise. The card (YtdajmekliodmcaaGreatDoorCards.lean) ties it to the program's text. -/
def laid_unicode_utf8_acceptRanges {H : Type} : DataW H := .agg [.agg [.lit (.int .u8 128), .lit (.int .u8 191)], .agg [.lit (.int .u8 160), .lit (.int .u8 191)], .agg [.lit (.int .u8 128), .lit (.int .u8 159)], .agg [.lit (.int .u8 144), .lit (.int .u8 191)], .agg [.lit (.int .u8 128), .lit (.int .u8 143)], .agg [.lit (.int .u8 0), .lit (.int .u8 0)], .agg [.lit (.int .u8 0), .lit (.int .u8 0)], .agg [.lit (.int .u8 0), .lit (.int .u8 0)], .agg [.lit (.int .u8 0), .lit (.int .u8 0)], .agg [.lit (.int .u8 0), .lit (.int .u8 0)], .agg [.lit (.int .u8 0), .lit (.int .u8 0)], .agg [.lit (.int .u8 0), .lit (.int .u8 0)], .agg [.lit (.int .u8 0), .lit (.int .u8 0)], .agg [.lit (.int .u8 0), .lit (.int .u8 0)], .agg [.lit (.int .u8 0), .lit (.int .u8 0)], .agg [.lit (.int .u8 0), .lit (.int .u8 0)]]
def laid_shelfmark_field_turn {H : Type} : DataW H := .agg [.lit (.int .u64 14190309331451158704), .lit (.int .u64 3405592160176694392), .lit (.int .u64 3120150775007532967), .lit (.int .u64 3135389899092516619)]
def laid_shelfmark_point_d {H : Type} : DataW H := .agg [.lit (.int .u64 8496970652267935907), .lit (.int .u64 31536524315187371), .lit (.int .u64 10144147576115030168), .lit (.int .u64 5909686906226998899)]
def laid_shelfmark_point_base {H : Type} : DataW H := .agg [.agg [.lit (.int .u64 14507833142362363162), .lit (.int .u64 7578651490590762930), .lit (.int .u64 13881468655802702940), .lit (.int .u64 2407515759118799870)], .agg [.lit (.int .u64 7378697629483820632), .lit (.int .u64 7378697629483820646), .lit (.int .u64 7378697629483820646), .lit (.int .u64 7378697629483820646)]]
def laid_shelfmark_scalar_order {H : Type} : DataW H := .agg [.lit (.int .u64 6346243789798364141), .lit (.int .u64 1503914060200516822), .lit (.int .u64 0), .lit (.int .u64 1152921504606846976)]
/-- One of Go's own tables, pinned by name: the form's constant. -/
def laid_unicode_utf8_first : DataW Unit := Go.Pinned.utf8First

/-- 'shelfmarklaw9.SigAll': WHATEVER THE INPUT: true; the input reads as it did. -/
def sigAllSpec : ChangeSpec := { name := "sigAll", fn := fun _ => fun
  | [d1, d2, d3, d4] => { results := [.lit (.bool true)], args := [d1, d2, d3, d4] }
  | _ => none }
def sigAllRow : OpenClaim := { program := "ytdajmekliodmcaagreatdoor", sum := "b2734577fa7cc2fac32feba76e230f5016999258436b2be0d182c317f6367815", func := "shelfmark/shelfmarklaw9.SigAll", spec := "sigAll", inPlace := ["internal/abi.NoEscape", "internal/bytealg.MakeNoZero", "internal/bytealg.IndexByteString", "internal/bytealg.IndexString", "math/bits.Add64", "math/bits.Sub64"], unfollowed := true, recurses := true, named := ["internal/bytealg.MaxLen", "unicode/utf8.first", "unicode/utf8.acceptRanges", "shelfmark/point.d", "shelfmark/field.turn", "shelfmark/scalar.order", "shelfmark/point.base"], apart := false, laid := [("unicode/utf8.acceptRanges", laid_unicode_utf8_acceptRanges), ("shelfmark/field.turn", laid_shelfmark_field_turn), ("shelfmark/point.d", laid_shelfmark_point_d), ("shelfmark/point.base", laid_shelfmark_point_base), ("shelfmark/scalar.order", laid_shelfmark_scalar_order), ("unicode/utf8.first", laid_unicode_utf8_first)] }
def SigAllSaid : Prop := sigAllRow.holds Tryz.pinned (OpenSpec.ofChange sigAllSpec)

/-- ITS FALSE NEIGHBOUR: 'it returns false'. Refute it at one input. -/
def sigAllWrong : ChangeSpec := { name := "sigAll", fn := fun _ => fun
  | [d1, d2, d3, d4] => { results := [.lit (.bool false)], args := [d1, d2, d3, d4] }
  | _ => none }
def SigAllWrongFalsely : Prop := sigAllRow.holds Tryz.pinned (OpenSpec.ofChange sigAllWrong)

/-- 'shelfmarklaw9.SigBack': WHATEVER THE INPUT: true; the input reads as it did. -/
def sigBackSpec : ChangeSpec := { name := "sigBack", fn := fun _ => fun
  | [d1, d2, d3, d4, d5] => { results := [.lit (.bool true)], args := [d1, d2, d3, d4, d5] }
  | _ => none }
def sigBackRow : OpenClaim := { program := "ytdajmekliodmcaagreatdoor", sum := "b2734577fa7cc2fac32feba76e230f5016999258436b2be0d182c317f6367815", func := "shelfmark/shelfmarklaw9.SigBack", spec := "sigBack", inPlace := ["internal/abi.NoEscape", "internal/bytealg.MakeNoZero", "internal/bytealg.IndexByteString", "internal/bytealg.IndexString", "math/bits.Add64", "math/bits.Sub64"], unfollowed := true, recurses := true, named := ["internal/bytealg.MaxLen", "unicode/utf8.first", "unicode/utf8.acceptRanges", "shelfmark/point.d", "shelfmark/field.turn", "shelfmark/scalar.order", "shelfmark/point.base"], apart := false, laid := [("unicode/utf8.acceptRanges", laid_unicode_utf8_acceptRanges), ("shelfmark/field.turn", laid_shelfmark_field_turn), ("shelfmark/point.d", laid_shelfmark_point_d), ("shelfmark/point.base", laid_shelfmark_point_base), ("shelfmark/scalar.order", laid_shelfmark_scalar_order), ("unicode/utf8.first", laid_unicode_utf8_first)] }
def SigBackSaid : Prop := sigBackRow.holds Tryz.pinned (OpenSpec.ofChange sigBackSpec)

/-- ITS FALSE NEIGHBOUR: 'it returns false'. Refute it at one input. -/
def sigBackWrong : ChangeSpec := { name := "sigBack", fn := fun _ => fun
  | [d1, d2, d3, d4, d5] => { results := [.lit (.bool false)], args := [d1, d2, d3, d4, d5] }
  | _ => none }
def SigBackWrongFalsely : Prop := sigBackRow.holds Tryz.pinned (OpenSpec.ofChange sigBackWrong)

/-- 'shelfmarklaw9.SigKnown': WHATEVER THE INPUT: true; the input reads as it did. -/
def sigKnownSpec : ChangeSpec := { name := "sigKnown", fn := fun _ => fun
  | [d] => { results := [.lit (.bool true)], args := [d] }
  | _ => none }
def sigKnownRow : OpenClaim := { program := "ytdajmekliodmcaagreatdoor", sum := "b2734577fa7cc2fac32feba76e230f5016999258436b2be0d182c317f6367815", func := "shelfmark/shelfmarklaw9.SigKnown", spec := "sigKnown", inPlace := ["math/bits.Add64", "math/bits.Sub64", "internal/abi.NoEscape", "internal/bytealg.MakeNoZero", "internal/bytealg.IndexByteString", "internal/bytealg.IndexString"], unfollowed := true, recurses := true, named := ["shelfmark/point.base", "shelfmark/point.d", "shelfmark/scalar.order", "shelfmark/field.turn", "internal/bytealg.MaxLen", "unicode/utf8.first", "unicode/utf8.acceptRanges"], apart := false, laid := [("unicode/utf8.acceptRanges", laid_unicode_utf8_acceptRanges), ("shelfmark/field.turn", laid_shelfmark_field_turn), ("shelfmark/point.d", laid_shelfmark_point_d), ("shelfmark/point.base", laid_shelfmark_point_base), ("shelfmark/scalar.order", laid_shelfmark_scalar_order), ("unicode/utf8.first", laid_unicode_utf8_first)] }
def SigKnownSaid : Prop := sigKnownRow.holds Tryz.pinned (OpenSpec.ofChange sigKnownSpec)

/-- ITS FALSE NEIGHBOUR: 'it returns false'. Refute it at one input. -/
def sigKnownWrong : ChangeSpec := { name := "sigKnown", fn := fun _ => fun
  | [d] => { results := [.lit (.bool false)], args := [d] }
  | _ => none }
def SigKnownWrongFalsely : Prop := sigKnownRow.holds Tryz.pinned (OpenSpec.ofChange sigKnownWrong)

/-- 'shelfmarklaw9.SigTexts': WHATEVER THE INPUT: true; the input reads as it did. -/
def sigTextsSpec : ChangeSpec := { name := "sigTexts", fn := fun _ => fun
  | [d1, d2, d3] => { results := [.lit (.bool true)], args := [d1, d2, d3] }
  | _ => none }
def sigTextsRow : OpenClaim := { program := "ytdajmekliodmcaagreatdoor", sum := "b2734577fa7cc2fac32feba76e230f5016999258436b2be0d182c317f6367815", func := "shelfmark/shelfmarklaw9.SigTexts", spec := "sigTexts", inPlace := ["internal/abi.NoEscape", "internal/bytealg.MakeNoZero", "internal/bytealg.IndexByteString", "internal/bytealg.IndexString", "math/bits.Add64", "math/bits.Sub64"], unfollowed := true, recurses := true, named := ["internal/bytealg.MaxLen", "unicode/utf8.first", "unicode/utf8.acceptRanges", "shelfmark/point.d", "shelfmark/field.turn", "shelfmark/scalar.order", "shelfmark/point.base"], apart := false, laid := [("unicode/utf8.acceptRanges", laid_unicode_utf8_acceptRanges), ("shelfmark/field.turn", laid_shelfmark_field_turn), ("shelfmark/point.d", laid_shelfmark_point_d), ("shelfmark/point.base", laid_shelfmark_point_base), ("shelfmark/scalar.order", laid_shelfmark_scalar_order), ("unicode/utf8.first", laid_unicode_utf8_first)] }
def SigTextsSaid : Prop := sigTextsRow.holds Tryz.pinned (OpenSpec.ofChange sigTextsSpec)

/-- ITS FALSE NEIGHBOUR: 'it returns false'. Refute it at one input. -/
def sigTextsWrong : ChangeSpec := { name := "sigTexts", fn := fun _ => fun
  | [d1, d2, d3] => { results := [.lit (.bool false)], args := [d1, d2, d3] }
  | _ => none }
def SigTextsWrongFalsely : Prop := sigTextsRow.holds Tryz.pinned (OpenSpec.ofChange sigTextsWrong)

/-- 'shelfmarklaw9.SigTwice': WHATEVER THE INPUT: true; the input reads as it did. -/
def sigTwiceSpec : ChangeSpec := { name := "sigTwice", fn := fun _ => fun
  | [d1, d2, d3] => { results := [.lit (.bool true)], args := [d1, d2, d3] }
  | _ => none }
def sigTwiceRow : OpenClaim := { program := "ytdajmekliodmcaagreatdoor", sum := "b2734577fa7cc2fac32feba76e230f5016999258436b2be0d182c317f6367815", func := "shelfmark/shelfmarklaw9.SigTwice", spec := "sigTwice", inPlace := ["internal/abi.NoEscape", "internal/bytealg.MakeNoZero", "internal/bytealg.IndexByteString", "internal/bytealg.IndexString", "math/bits.Add64", "math/bits.Sub64"], unfollowed := true, recurses := true, named := ["internal/bytealg.MaxLen", "unicode/utf8.first", "unicode/utf8.acceptRanges", "shelfmark/point.d", "shelfmark/field.turn", "shelfmark/scalar.order", "shelfmark/point.base"], apart := false, laid := [("unicode/utf8.acceptRanges", laid_unicode_utf8_acceptRanges), ("shelfmark/field.turn", laid_shelfmark_field_turn), ("shelfmark/point.d", laid_shelfmark_point_d), ("shelfmark/point.base", laid_shelfmark_point_base), ("shelfmark/scalar.order", laid_shelfmark_scalar_order), ("unicode/utf8.first", laid_unicode_utf8_first)] }
def SigTwiceSaid : Prop := sigTwiceRow.holds Tryz.pinned (OpenSpec.ofChange sigTwiceSpec)

/-- ITS FALSE NEIGHBOUR: 'it returns false'. Refute it at one input. -/
def sigTwiceWrong : ChangeSpec := { name := "sigTwice", fn := fun _ => fun
  | [d1, d2, d3] => { results := [.lit (.bool false)], args := [d1, d2, d3] }
  | _ => none }
def SigTwiceWrongFalsely : Prop := sigTwiceRow.holds Tryz.pinned (OpenSpec.ofChange sigTwiceWrong)

/-- 'shelfmarklaw9.SigForms': WHATEVER THE INPUT: true; the input reads as it did. -/
def sigFormsSpec : ChangeSpec := { name := "sigForms", fn := fun _ => fun
  | [d1, d2] => { results := [.lit (.bool true)], args := [d1, d2] }
  | _ => none }
def sigFormsRow : OpenClaim := { program := "ytdajmekliodmcaagreatdoor", sum := "b2734577fa7cc2fac32feba76e230f5016999258436b2be0d182c317f6367815", func := "shelfmark/shelfmarklaw9.SigForms", spec := "sigForms", inPlace := ["internal/abi.NoEscape", "internal/bytealg.MakeNoZero", "internal/bytealg.IndexByteString", "internal/bytealg.IndexString", "math/bits.Add64", "math/bits.Sub64"], unfollowed := true, recurses := true, named := ["internal/bytealg.MaxLen", "unicode/utf8.first", "unicode/utf8.acceptRanges", "shelfmark/point.d", "shelfmark/field.turn", "shelfmark/scalar.order", "shelfmark/point.base"], apart := false, laid := [("unicode/utf8.acceptRanges", laid_unicode_utf8_acceptRanges), ("shelfmark/field.turn", laid_shelfmark_field_turn), ("shelfmark/point.d", laid_shelfmark_point_d), ("shelfmark/point.base", laid_shelfmark_point_base), ("shelfmark/scalar.order", laid_shelfmark_scalar_order), ("unicode/utf8.first", laid_unicode_utf8_first)] }
def SigFormsSaid : Prop := sigFormsRow.holds Tryz.pinned (OpenSpec.ofChange sigFormsSpec)

/-- ITS FALSE NEIGHBOUR: 'it returns false'. Refute it at one input. -/
def sigFormsWrong : ChangeSpec := { name := "sigForms", fn := fun _ => fun
  | [d1, d2] => { results := [.lit (.bool false)], args := [d1, d2] }
  | _ => none }
def SigFormsWrongFalsely : Prop := sigFormsRow.holds Tryz.pinned (OpenSpec.ofChange sigFormsWrong)

/- THE SECOND FORM. 'bulk': how many values and letters a reading holds, each counted each time it is reached (what is shared counts as often as it is met; a slice's spare places count too). A statement '..UptoSaid' is the law's where the arguments, and the package variables that the reading takes, are together of bulk at most 1048576: NARROWER than '..Said'. Prove '..Said' where nothing that the law and all that it calls make is longer than what came in: it says more and counts as full. Else prove '..UptoSaid'. A law counts once. -/
mutual
def uptoBulk {H : Type} : DataW H → Nat
  | .lit (.string bytes) => bytes.length + 1
  | .lit _ => 1
  | .nil => 1
  | .ptr d => uptoBulk d + 1
  | .slice elems spare => uptoBulkAll elems + uptoBulkAll spare + 1
  | .agg parts => uptoBulkAll parts + 1
  | .iface _ d => uptoBulk d + 1
  | .map entries => uptoBulkEntries entries + 1
  | .held _ => 1
def uptoBulkAll {H : Type} : List (DataW H) → Nat
  | [] => 0
  | d :: r => uptoBulk d + uptoBulkAll r
def uptoBulkEntries {H : Type} : List (Lit × DataW H) → Nat
  | [] => 0
  | x :: r => uptoBulkEntry x + uptoBulkEntries r
def uptoBulkEntry {H : Type} : Lit × DataW H → Nat
  | (.string bytes, d) => bytes.length + uptoBulk d + 1
  | (_, d) => uptoBulk d + 1
 end
def uptoSmall : (H : Type) → List (DataW H) → Bool := fun _ ds => decide (uptoBulkAll ds ≤ 1048576)
def OpenSpec.upto (s : _root_.Go.ChangeSpec) : _root_.Go.OpenSpec := { _root_.Go.OpenSpec.ofChange s with cond := some uptoSmall }

/-- 'shelfmarklaw9.SigAll', WHERE WHAT IT READS IS OF BULK AT MOST 1048576: true; the input reads as it did. -/
def sigAllUptoRow : OpenClaim := { program := "ytdajmekliodmcaagreatdoor", sum := "b2734577fa7cc2fac32feba76e230f5016999258436b2be0d182c317f6367815", func := "shelfmark/shelfmarklaw9.SigAll", spec := "sigAll", inPlace := ["internal/abi.NoEscape", "internal/bytealg.MakeNoZero", "internal/bytealg.IndexByteString", "internal/bytealg.IndexString", "math/bits.Add64", "math/bits.Sub64"], unfollowed := true, recurses := true, named := ["internal/bytealg.MaxLen", "unicode/utf8.first", "unicode/utf8.acceptRanges", "shelfmark/point.d", "shelfmark/field.turn", "shelfmark/scalar.order", "shelfmark/point.base"], apart := false, laid := [("unicode/utf8.acceptRanges", laid_unicode_utf8_acceptRanges), ("shelfmark/field.turn", laid_shelfmark_field_turn), ("shelfmark/point.d", laid_shelfmark_point_d), ("shelfmark/point.base", laid_shelfmark_point_base), ("shelfmark/scalar.order", laid_shelfmark_scalar_order), ("unicode/utf8.first", laid_unicode_utf8_first)], narrowed := true }
def SigAllUptoSaid : Prop := sigAllUptoRow.holds Tryz.pinned (OpenSpec.upto sigAllSpec)

/-- 'shelfmarklaw9.SigBack', WHERE WHAT IT READS IS OF BULK AT MOST 1048576: true; the input reads as it did. -/
def sigBackUptoRow : OpenClaim := { program := "ytdajmekliodmcaagreatdoor", sum := "b2734577fa7cc2fac32feba76e230f5016999258436b2be0d182c317f6367815", func := "shelfmark/shelfmarklaw9.SigBack", spec := "sigBack", inPlace := ["internal/abi.NoEscape", "internal/bytealg.MakeNoZero", "internal/bytealg.IndexByteString", "internal/bytealg.IndexString", "math/bits.Add64", "math/bits.Sub64"], unfollowed := true, recurses := true, named := ["internal/bytealg.MaxLen", "unicode/utf8.first", "unicode/utf8.acceptRanges", "shelfmark/point.d", "shelfmark/field.turn", "shelfmark/scalar.order", "shelfmark/point.base"], apart := false, laid := [("unicode/utf8.acceptRanges", laid_unicode_utf8_acceptRanges), ("shelfmark/field.turn", laid_shelfmark_field_turn), ("shelfmark/point.d", laid_shelfmark_point_d), ("shelfmark/point.base", laid_shelfmark_point_base), ("shelfmark/scalar.order", laid_shelfmark_scalar_order), ("unicode/utf8.first", laid_unicode_utf8_first)], narrowed := true }
def SigBackUptoSaid : Prop := sigBackUptoRow.holds Tryz.pinned (OpenSpec.upto sigBackSpec)

/-- 'shelfmarklaw9.SigKnown', WHERE WHAT IT READS IS OF BULK AT MOST 1048576: true; the input reads as it did. -/
def sigKnownUptoRow : OpenClaim := { program := "ytdajmekliodmcaagreatdoor", sum := "b2734577fa7cc2fac32feba76e230f5016999258436b2be0d182c317f6367815", func := "shelfmark/shelfmarklaw9.SigKnown", spec := "sigKnown", inPlace := ["math/bits.Add64", "math/bits.Sub64", "internal/abi.NoEscape", "internal/bytealg.MakeNoZero", "internal/bytealg.IndexByteString", "internal/bytealg.IndexString"], unfollowed := true, recurses := true, named := ["shelfmark/point.base", "shelfmark/point.d", "shelfmark/scalar.order", "shelfmark/field.turn", "internal/bytealg.MaxLen", "unicode/utf8.first", "unicode/utf8.acceptRanges"], apart := false, laid := [("unicode/utf8.acceptRanges", laid_unicode_utf8_acceptRanges), ("shelfmark/field.turn", laid_shelfmark_field_turn), ("shelfmark/point.d", laid_shelfmark_point_d), ("shelfmark/point.base", laid_shelfmark_point_base), ("shelfmark/scalar.order", laid_shelfmark_scalar_order), ("unicode/utf8.first", laid_unicode_utf8_first)], narrowed := true }
def SigKnownUptoSaid : Prop := sigKnownUptoRow.holds Tryz.pinned (OpenSpec.upto sigKnownSpec)

/-- 'shelfmarklaw9.SigTexts', WHERE WHAT IT READS IS OF BULK AT MOST 1048576: true; the input reads as it did. -/
def sigTextsUptoRow : OpenClaim := { program := "ytdajmekliodmcaagreatdoor", sum := "b2734577fa7cc2fac32feba76e230f5016999258436b2be0d182c317f6367815", func := "shelfmark/shelfmarklaw9.SigTexts", spec := "sigTexts", inPlace := ["internal/abi.NoEscape", "internal/bytealg.MakeNoZero", "internal/bytealg.IndexByteString", "internal/bytealg.IndexString", "math/bits.Add64", "math/bits.Sub64"], unfollowed := true, recurses := true, named := ["internal/bytealg.MaxLen", "unicode/utf8.first", "unicode/utf8.acceptRanges", "shelfmark/point.d", "shelfmark/field.turn", "shelfmark/scalar.order", "shelfmark/point.base"], apart := false, laid := [("unicode/utf8.acceptRanges", laid_unicode_utf8_acceptRanges), ("shelfmark/field.turn", laid_shelfmark_field_turn), ("shelfmark/point.d", laid_shelfmark_point_d), ("shelfmark/point.base", laid_shelfmark_point_base), ("shelfmark/scalar.order", laid_shelfmark_scalar_order), ("unicode/utf8.first", laid_unicode_utf8_first)], narrowed := true }
def SigTextsUptoSaid : Prop := sigTextsUptoRow.holds Tryz.pinned (OpenSpec.upto sigTextsSpec)

/-- 'shelfmarklaw9.SigTwice', WHERE WHAT IT READS IS OF BULK AT MOST 1048576: true; the input reads as it did. -/
def sigTwiceUptoRow : OpenClaim := { program := "ytdajmekliodmcaagreatdoor", sum := "b2734577fa7cc2fac32feba76e230f5016999258436b2be0d182c317f6367815", func := "shelfmark/shelfmarklaw9.SigTwice", spec := "sigTwice", inPlace := ["internal/abi.NoEscape", "internal/bytealg.MakeNoZero", "internal/bytealg.IndexByteString", "internal/bytealg.IndexString", "math/bits.Add64", "math/bits.Sub64"], unfollowed := true, recurses := true, named := ["internal/bytealg.MaxLen", "unicode/utf8.first", "unicode/utf8.acceptRanges", "shelfmark/point.d", "shelfmark/field.turn", "shelfmark/scalar.order", "shelfmark/point.base"], apart := false, laid := [("unicode/utf8.acceptRanges", laid_unicode_utf8_acceptRanges), ("shelfmark/field.turn", laid_shelfmark_field_turn), ("shelfmark/point.d", laid_shelfmark_point_d), ("shelfmark/point.base", laid_shelfmark_point_base), ("shelfmark/scalar.order", laid_shelfmark_scalar_order), ("unicode/utf8.first", laid_unicode_utf8_first)], narrowed := true }
def SigTwiceUptoSaid : Prop := sigTwiceUptoRow.holds Tryz.pinned (OpenSpec.upto sigTwiceSpec)

/-- 'shelfmarklaw9.SigForms', WHERE WHAT IT READS IS OF BULK AT MOST 1048576: true; the input reads as it did. -/
def sigFormsUptoRow : OpenClaim := { program := "ytdajmekliodmcaagreatdoor", sum := "b2734577fa7cc2fac32feba76e230f5016999258436b2be0d182c317f6367815", func := "shelfmark/shelfmarklaw9.SigForms", spec := "sigForms", inPlace := ["internal/abi.NoEscape", "internal/bytealg.MakeNoZero", "internal/bytealg.IndexByteString", "internal/bytealg.IndexString", "math/bits.Add64", "math/bits.Sub64"], unfollowed := true, recurses := true, named := ["internal/bytealg.MaxLen", "unicode/utf8.first", "unicode/utf8.acceptRanges", "shelfmark/point.d", "shelfmark/field.turn", "shelfmark/scalar.order", "shelfmark/point.base"], apart := false, laid := [("unicode/utf8.acceptRanges", laid_unicode_utf8_acceptRanges), ("shelfmark/field.turn", laid_shelfmark_field_turn), ("shelfmark/point.d", laid_shelfmark_point_d), ("shelfmark/point.base", laid_shelfmark_point_base), ("shelfmark/scalar.order", laid_shelfmark_scalar_order), ("unicode/utf8.first", laid_unicode_utf8_first)], narrowed := true }
def SigFormsUptoSaid : Prop := sigFormsUptoRow.holds Tryz.pinned (OpenSpec.upto sigFormsSpec)

end Rows
end Go.Proofs.YtdajmekliodmcaaGreatDoor
