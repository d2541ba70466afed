/-
  No cell of these rows narrows 'for every input' (looked for: loops, veiled, ifaces, maps, wideKeys, modest, calm, conditions, laid).
  DERIVED. THE GIVEN ROWS OF THIS SEAT. 8 by the template 'for every input the law returns true; each argument reads behind the call as it read before'; 0 by the template 'total and deterministic' (their statements: YtglipljilcdboaaTotals.lean).
  GIVEN WITH THE SEED: the statements are not yours to turn. If you find one false, say at which input.
  Laid BY PROGRAM, IN A SANDBOX (cutbox-rows.mjs): the forced cells as the released guide's own fill.sh prints them over the translation 441c200ba7bdfa6c… (all of the seat's roots in one cut). By AI agents, Wed Nov 11 2026. No macro, syntax, notation, axiom, sorry.
-/
import Derived.Test.YtglipljilcdboaaChecked
import GoSem.Claim
import GoSem.ClaimJoined
import GoSem.ClaimMapViews
import Derived.JoinedTies
import Derived.KernelRfl
namespace Go.Proofs.Ytglipljilcdboaa
/- THE CELL 'sum', in the pinned program and in every row, IS THE sha256 OF THE DUMP (.gsa) THAT YtglipljilcdboaaProg.lean LOADS. Nothing in Lean hashes anything: it is a label: what it is worth is what the hold of that sum in a sandbox is worth. -/
noncomputable def Try.pinned : Pinned := { name := "ytglipljilcdboaa", sum := "441c200ba7bdfa6cad53588f7c8b0524eca94c30a46c83aa05aff2fea20bb0d9", checked := Try.checked }
namespace Rows
def none {H : Type} : Left H := { results := [], args := [] }

/-- 'shelfmarklaw11.ParseAll': WHATEVER THE INPUT: true; the input reads as it did. -/
def parseAllSpec : ChangeSpec := { name := "parseAll", fn := fun _ => fun
  | [d] => { results := [.lit (.bool true)], args := [d] }
  | _ => none }
def parseAllRow : OpenClaim := { program := "ytglipljilcdboaa", sum := "441c200ba7bdfa6cad53588f7c8b0524eca94c30a46c83aa05aff2fea20bb0d9", func := "shelfmark/shelfmarklaw11.ParseAll", spec := "parseAll", inPlace := ["internal/bytealg.IndexByteString", "internal/bytealg.IndexString"], unfollowed := true, recurses := true, named := ["internal/bytealg.MaxLen"], apart := false }
def ParseAllSaid : Prop := parseAllRow.holds Try.pinned (OpenSpec.ofChange parseAllSpec)

/-- ITS FALSE NEIGHBOUR: 'it returns false'. Refute it at one input. -/
def parseAllWrong : ChangeSpec := { name := "parseAll", fn := fun _ => fun
  | [d] => { results := [.lit (.bool false)], args := [d] }
  | _ => none }
def ParseAllWrongFalsely : Prop := parseAllRow.holds Try.pinned (OpenSpec.ofChange parseAllWrong)

/-- 'shelfmarklaw11.ParseBack': WHATEVER THE INPUT: true; the input reads as it did. -/
def parseBackSpec : ChangeSpec := { name := "parseBack", fn := fun _ => fun
  | [d1, d2, d3, d4, d5] => { results := [.lit (.bool true)], args := [d1, d2, d3, d4, d5] }
  | _ => none }
def parseBackRow : OpenClaim := { program := "ytglipljilcdboaa", sum := "441c200ba7bdfa6cad53588f7c8b0524eca94c30a46c83aa05aff2fea20bb0d9", func := "shelfmark/shelfmarklaw11.ParseBack", spec := "parseBack", inPlace := ["internal/bytealg.IndexByteString", "internal/bytealg.IndexString"], unfollowed := true, recurses := true, named := ["internal/bytealg.MaxLen"], apart := false }
def ParseBackSaid : Prop := parseBackRow.holds Try.pinned (OpenSpec.ofChange parseBackSpec)

/-- ITS FALSE NEIGHBOUR: 'it returns false'. Refute it at one input. -/
def parseBackWrong : ChangeSpec := { name := "parseBack", fn := fun _ => fun
  | [d1, d2, d3, d4, d5] => { results := [.lit (.bool false)], args := [d1, d2, d3, d4, d5] }
  | _ => none }
def ParseBackWrongFalsely : Prop := parseBackRow.holds Try.pinned (OpenSpec.ofChange parseBackWrong)

/-- 'shelfmarklaw11.ParseRepacks': WHATEVER THE INPUT: true; the input reads as it did. -/
def parseRepacksSpec : ChangeSpec := { name := "parseRepacks", fn := fun _ => fun
  | [d] => { results := [.lit (.bool true)], args := [d] }
  | _ => none }
def parseRepacksRow : OpenClaim := { program := "ytglipljilcdboaa", sum := "441c200ba7bdfa6cad53588f7c8b0524eca94c30a46c83aa05aff2fea20bb0d9", func := "shelfmark/shelfmarklaw11.ParseRepacks", spec := "parseRepacks", inPlace := ["internal/bytealg.IndexByteString", "internal/bytealg.IndexString"], unfollowed := true, recurses := true, named := ["internal/bytealg.MaxLen"], apart := false }
def ParseRepacksSaid : Prop := parseRepacksRow.holds Try.pinned (OpenSpec.ofChange parseRepacksSpec)

/-- ITS FALSE NEIGHBOUR: 'it returns false'. Refute it at one input. -/
def parseRepacksWrong : ChangeSpec := { name := "parseRepacks", fn := fun _ => fun
  | [d] => { results := [.lit (.bool false)], args := [d] }
  | _ => none }
def ParseRepacksWrongFalsely : Prop := parseRepacksRow.holds Try.pinned (OpenSpec.ofChange parseRepacksWrong)

/-- 'shelfmarklaw11.ParsePieces': WHATEVER THE INPUT: true; the input reads as it did. -/
def parsePiecesSpec : ChangeSpec := { name := "parsePieces", fn := fun _ => fun
  | [d] => { results := [.lit (.bool true)], args := [d] }
  | _ => none }
def parsePiecesRow : OpenClaim := { program := "ytglipljilcdboaa", sum := "441c200ba7bdfa6cad53588f7c8b0524eca94c30a46c83aa05aff2fea20bb0d9", func := "shelfmark/shelfmarklaw11.ParsePieces", spec := "parsePieces", inPlace := ["internal/bytealg.IndexByteString", "internal/bytealg.IndexString"], unfollowed := true, recurses := true, named := ["internal/bytealg.MaxLen"], apart := false }
def ParsePiecesSaid : Prop := parsePiecesRow.holds Try.pinned (OpenSpec.ofChange parsePiecesSpec)

/-- ITS FALSE NEIGHBOUR: 'it returns false'. Refute it at one input. -/
def parsePiecesWrong : ChangeSpec := { name := "parsePieces", fn := fun _ => fun
  | [d] => { results := [.lit (.bool false)], args := [d] }
  | _ => none }
def ParsePiecesWrongFalsely : Prop := parsePiecesRow.holds Try.pinned (OpenSpec.ofChange parsePiecesWrong)

/-- 'shelfmarklaw11.ParseCuts': WHATEVER THE INPUT: true; the input reads as it did. -/
def parseCutsSpec : ChangeSpec := { name := "parseCuts", fn := fun _ => fun
  | [d1, d2, d3] => { results := [.lit (.bool true)], args := [d1, d2, d3] }
  | _ => none }
def parseCutsRow : OpenClaim := { program := "ytglipljilcdboaa", sum := "441c200ba7bdfa6cad53588f7c8b0524eca94c30a46c83aa05aff2fea20bb0d9", func := "shelfmark/shelfmarklaw11.ParseCuts", spec := "parseCuts", inPlace := ["internal/bytealg.IndexByteString", "internal/bytealg.IndexString"], unfollowed := true, recurses := true, named := ["internal/bytealg.MaxLen"], apart := false }
def ParseCutsSaid : Prop := parseCutsRow.holds Try.pinned (OpenSpec.ofChange parseCutsSpec)

/-- ITS FALSE NEIGHBOUR: 'it returns false'. Refute it at one input. -/
def parseCutsWrong : ChangeSpec := { name := "parseCuts", fn := fun _ => fun
  | [d1, d2, d3] => { results := [.lit (.bool false)], args := [d1, d2, d3] }
  | _ => none }
def ParseCutsWrongFalsely : Prop := parseCutsRow.holds Try.pinned (OpenSpec.ofChange parseCutsWrong)

/-- 'shelfmarklaw11.ParseForms': WHATEVER THE INPUT: true; the input reads as it did. -/
def parseFormsSpec : ChangeSpec := { name := "parseForms", fn := fun _ => fun
  | [d] => { results := [.lit (.bool true)], args := [d] }
  | _ => none }
def parseFormsRow : OpenClaim := { program := "ytglipljilcdboaa", sum := "441c200ba7bdfa6cad53588f7c8b0524eca94c30a46c83aa05aff2fea20bb0d9", func := "shelfmark/shelfmarklaw11.ParseForms", spec := "parseForms", inPlace := ["internal/bytealg.IndexByteString", "internal/bytealg.IndexString"], unfollowed := true, recurses := true, named := ["internal/bytealg.MaxLen"], apart := false }
def ParseFormsSaid : Prop := parseFormsRow.holds Try.pinned (OpenSpec.ofChange parseFormsSpec)

/-- ITS FALSE NEIGHBOUR: 'it returns false'. Refute it at one input. -/
def parseFormsWrong : ChangeSpec := { name := "parseForms", fn := fun _ => fun
  | [d] => { results := [.lit (.bool false)], args := [d] }
  | _ => none }
def ParseFormsWrongFalsely : Prop := parseFormsRow.holds Try.pinned (OpenSpec.ofChange parseFormsWrong)

/-- 'shelfmarklaw11.ParseLimits': WHATEVER THE INPUT: true; the input reads as it did. -/
def parseLimitsSpec : ChangeSpec := { name := "parseLimits", fn := fun _ => fun
  | [d1, d2] => { results := [.lit (.bool true)], args := [d1, d2] }
  | _ => none }
def parseLimitsRow : OpenClaim := { program := "ytglipljilcdboaa", sum := "441c200ba7bdfa6cad53588f7c8b0524eca94c30a46c83aa05aff2fea20bb0d9", func := "shelfmark/shelfmarklaw11.ParseLimits", spec := "parseLimits", inPlace := ["internal/bytealg.IndexByteString", "internal/bytealg.IndexString"], unfollowed := true, recurses := true, named := ["internal/bytealg.MaxLen"], apart := false }
def ParseLimitsSaid : Prop := parseLimitsRow.holds Try.pinned (OpenSpec.ofChange parseLimitsSpec)

/-- ITS FALSE NEIGHBOUR: 'it returns false'. Refute it at one input. -/
def parseLimitsWrong : ChangeSpec := { name := "parseLimits", fn := fun _ => fun
  | [d1, d2] => { results := [.lit (.bool false)], args := [d1, d2] }
  | _ => none }
def ParseLimitsWrongFalsely : Prop := parseLimitsRow.holds Try.pinned (OpenSpec.ofChange parseLimitsWrong)

/-- 'shelfmarklaw11.ParseLong': WHATEVER THE INPUT: true; the input reads as it did. -/
def parseLongSpec : ChangeSpec := { name := "parseLong", fn := fun _ => fun
  | [d1, d2] => { results := [.lit (.bool true)], args := [d1, d2] }
  | _ => none }
def parseLongRow : OpenClaim := { program := "ytglipljilcdboaa", sum := "441c200ba7bdfa6cad53588f7c8b0524eca94c30a46c83aa05aff2fea20bb0d9", func := "shelfmark/shelfmarklaw11.ParseLong", spec := "parseLong", inPlace := ["internal/bytealg.IndexByteString", "internal/bytealg.IndexString"], unfollowed := true, recurses := true, named := ["internal/bytealg.MaxLen"], apart := false }
def ParseLongSaid : Prop := parseLongRow.holds Try.pinned (OpenSpec.ofChange parseLongSpec)

/-- ITS FALSE NEIGHBOUR: 'it returns false'. Refute it at one input. -/
def parseLongWrong : ChangeSpec := { name := "parseLong", fn := fun _ => fun
  | [d1, d2] => { results := [.lit (.bool false)], args := [d1, d2] }
  | _ => none }
def ParseLongWrongFalsely : Prop := parseLongRow.holds Try.pinned (OpenSpec.ofChange parseLongWrong)

/- THE SECOND FORM. 'bulk': how many values and letters a reading holds, each counted each time it is reached (what is shared counts as often as it is met; a slice's spare places count too). A statement '..UptoSaid' is the law's where the arguments, and the package variables that the reading takes, are together of bulk at most 1048576: NARROWER than '..Said'. Prove '..Said' where nothing that the law and all that it calls make is longer than what came in: it says more and counts as full. Else prove '..UptoSaid'. A law counts once. -/
mutual
def uptoBulk {H : Type} : DataW H → Nat
  | .lit (.string bytes) => bytes.length + 1
  | .lit _ => 1
  | .nil => 1
  | .ptr d => uptoBulk d + 1
  | .slice elems spare => uptoBulkAll elems + uptoBulkAll spare + 1
  | .agg parts => uptoBulkAll parts + 1
  | .iface _ d => uptoBulk d + 1
  | .map entries => uptoBulkEntries entries + 1
  | .held _ => 1
def uptoBulkAll {H : Type} : List (DataW H) → Nat
  | [] => 0
  | d :: r => uptoBulk d + uptoBulkAll r
def uptoBulkEntries {H : Type} : List (Lit × DataW H) → Nat
  | [] => 0
  | x :: r => uptoBulkEntry x + uptoBulkEntries r
def uptoBulkEntry {H : Type} : Lit × DataW H → Nat
  | (.string bytes, d) => bytes.length + uptoBulk d + 1
  | (_, d) => uptoBulk d + 1
 end
def uptoSmall : (H : Type) → List (DataW H) → Bool := fun _ ds => decide (uptoBulkAll ds ≤ 1048576)
def OpenSpec.upto (s : _root_.Go.ChangeSpec) : _root_.Go.OpenSpec := { _root_.Go.OpenSpec.ofChange s with cond := some uptoSmall }

/-- 'shelfmarklaw11.ParseAll', WHERE WHAT IT READS IS OF BULK AT MOST 1048576: true; the input reads as it did. -/
def parseAllUptoRow : OpenClaim := { program := "ytglipljilcdboaa", sum := "441c200ba7bdfa6cad53588f7c8b0524eca94c30a46c83aa05aff2fea20bb0d9", func := "shelfmark/shelfmarklaw11.ParseAll", spec := "parseAll", inPlace := ["internal/bytealg.IndexByteString", "internal/bytealg.IndexString"], unfollowed := true, recurses := true, named := ["internal/bytealg.MaxLen"], apart := false, narrowed := true }
def ParseAllUptoSaid : Prop := parseAllUptoRow.holds Try.pinned (OpenSpec.upto parseAllSpec)

/-- 'shelfmarklaw11.ParseBack', WHERE WHAT IT READS IS OF BULK AT MOST 1048576: true; the input reads as it did. -/
def parseBackUptoRow : OpenClaim := { program := "ytglipljilcdboaa", sum := "441c200ba7bdfa6cad53588f7c8b0524eca94c30a46c83aa05aff2fea20bb0d9", func := "shelfmark/shelfmarklaw11.ParseBack", spec := "parseBack", inPlace := ["internal/bytealg.IndexByteString", "internal/bytealg.IndexString"], unfollowed := true, recurses := true, named := ["internal/bytealg.MaxLen"], apart := false, narrowed := true }
def ParseBackUptoSaid : Prop := parseBackUptoRow.holds Try.pinned (OpenSpec.upto parseBackSpec)

/-- 'shelfmarklaw11.ParseRepacks', WHERE WHAT IT READS IS OF BULK AT MOST 1048576: true; the input reads as it did. -/
def parseRepacksUptoRow : OpenClaim := { program := "ytglipljilcdboaa", sum := "441c200ba7bdfa6cad53588f7c8b0524eca94c30a46c83aa05aff2fea20bb0d9", func := "shelfmark/shelfmarklaw11.ParseRepacks", spec := "parseRepacks", inPlace := ["internal/bytealg.IndexByteString", "internal/bytealg.IndexString"], unfollowed := true, recurses := true, named := ["internal/bytealg.MaxLen"], apart := false, narrowed := true }
def ParseRepacksUptoSaid : Prop := parseRepacksUptoRow.holds Try.pinned (OpenSpec.upto parseRepacksSpec)

/-- 'shelfmarklaw11.ParsePieces', WHERE WHAT IT READS IS OF BULK AT MOST 1048576: true; the input reads as it did. -/
def parsePiecesUptoRow : OpenClaim := { program := "ytglipljilcdboaa", sum := "441c200ba7bdfa6cad53588f7c8b0524eca94c30a46c83aa05aff2fea20bb0d9", func := "shelfmark/shelfmarklaw11.ParsePieces", spec := "parsePieces", inPlace := ["internal/bytealg.IndexByteString", "internal/bytealg.IndexString"], unfollowed := true, recurses := true, named := ["internal/bytealg.MaxLen"], apart := false, narrowed := true }
def ParsePiecesUptoSaid : Prop := parsePiecesUptoRow.holds Try.pinned (OpenSpec.upto parsePiecesSpec)

/-- 'shelfmarklaw11.ParseCuts', WHERE WHAT IT READS IS OF BULK AT MOST 1048576: true; the input reads as it did. -/
def parseCutsUptoRow : OpenClaim := { program := "ytglipljilcdboaa", sum := "441c200ba7bdfa6cad53588f7c8b0524eca94c30a46c83aa05aff2fea20bb0d9", func := "shelfmark/shelfmarklaw11.ParseCuts", spec := "parseCuts", inPlace := ["internal/bytealg.IndexByteString", "internal/bytealg.IndexString"], unfollowed := true, recurses := true, named := ["internal/bytealg.MaxLen"], apart := false, narrowed := true }
def ParseCutsUptoSaid : Prop := parseCutsUptoRow.holds Try.pinned (OpenSpec.upto parseCutsSpec)

/-- 'shelfmarklaw11.ParseForms', WHERE WHAT IT READS IS OF BULK AT MOST 1048576: true; the input reads as it did. -/
def parseFormsUptoRow : OpenClaim := { program := "ytglipljilcdboaa", sum := "441c200ba7bdfa6cad53588f7c8b0524eca94c30a46c83aa05aff2fea20bb0d9", func := "shelfmark/shelfmarklaw11.ParseForms", spec := "parseForms", inPlace := ["internal/bytealg.IndexByteString", "internal/bytealg.IndexString"], unfollowed := true, recurses := true, named := ["internal/bytealg.MaxLen"], apart := false, narrowed := true }
def ParseFormsUptoSaid : Prop := parseFormsUptoRow.holds Try.pinned (OpenSpec.upto parseFormsSpec)

/-- 'shelfmarklaw11.ParseLimits', WHERE WHAT IT READS IS OF BULK AT MOST 1048576: true; the input reads as it did. -/
def parseLimitsUptoRow : OpenClaim := { program := "ytglipljilcdboaa", sum := "441c200ba7bdfa6cad53588f7c8b0524eca94c30a46c83aa05aff2fea20bb0d9", func := "shelfmark/shelfmarklaw11.ParseLimits", spec := "parseLimits", inPlace := ["internal/bytealg.IndexByteString", "internal/bytealg.IndexString"], unfollowed := true, recurses := true, named := ["internal/bytealg.MaxLen"], apart := false, narrowed := true }
def ParseLimitsUptoSaid : Prop := parseLimitsUptoRow.holds Try.pinned (OpenSpec.upto parseLimitsSpec)

/-- 'shelfmarklaw11.ParseLong', WHERE WHAT IT READS IS OF BULK AT MOST 1048576: true; the input reads as it did. -/
def parseLongUptoRow : OpenClaim := { program := "ytglipljilcdboaa", sum := "441c200ba7bdfa6cad53588f7c8b0524eca94c30a46c83aa05aff2fea20bb0d9", func := "shelfmark/shelfmarklaw11.ParseLong", spec := "parseLong", inPlace := ["internal/bytealg.IndexByteString", "internal/bytealg.IndexString"], unfollowed := true, recurses := true, named := ["internal/bytealg.MaxLen"], apart := false, narrowed := true }
def ParseLongUptoSaid : Prop := parseLongUptoRow.holds Try.pinned (OpenSpec.upto parseLongSpec)

end Rows
end Go.Proofs.Ytglipljilcdboaa
