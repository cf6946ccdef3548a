/-
  NARROWER THAN 'FOR EVERY INPUT', by the rows' own cells (each row's printed sentence says how): FnReadAt: laid · FnNamesAt: laid · FnEmptyRoot: laid · FnWriteAt: laid · FnDropAt: laid · FnWriteBack: laid · FnAllFiles: laid · FnFilesNamed: laid · FnExactDropAt: laid.
  DERIVED. THE GIVEN ROWS OF THIS SEAT. 9 by the template 'for every input the law returns true; each argument reads behind the call as it read before'; 0 by the template 'total and deterministic' (their statements: YtbbjpihlielpgaaGreatDoorTotals.lean).
  GIVEN WITH THE SEED: the statements are not yours to turn. If you find one false, say at which input.
  Laid BY PROGRAM, IN A SANDBOX (cutbox-rows.mjs): the forced cells as the released guide's own fill.sh prints them over the translation a061a7af203de49e… (all of the seat's roots in one cut). By AI agents, Wed Nov 11 2026. No macro, syntax, notation, axiom, sorry.
-/
import Derived.Test.YtbbjpihlielpgaaGreatDoorChecked
import GoSem.PinnedTables
import GoSem.Claim
import GoSem.ClaimJoined
import GoSem.ClaimMapViews
import Derived.JoinedTies
import Derived.KernelRfl
namespace Go.Proofs.YtbbjpihlielpgaaGreatDoor
/- THE CELL 'sum', in the pinned program and in every row, IS THE sha256 OF THE DUMP (.gsa) THAT YtbbjpihlielpgaaGreatDoorProg.lean LOADS. Nothing in Lean hashes anything: it is a label: what it is worth is what the hold of that sum in a sandbox is worth. -/
noncomputable def Tryz.pinned : Pinned := { name := "ytbbjpihlielpgaagreatdoor", sum := "a061a7af203de49e312d460e19e7dad4516572daa721edc51f461a0d07bdb113", checked := Tryz.checked }
namespace Rows
def none {H : Type} : Left H := { results := [], args := [] }

/- WHAT THE LISTED PACKAGE-LEVEL VARIABLES READ AS WHEN THE CALL BEGINS. Each datum BY PROGRAM (the guide's laid-datum.mjs) off the statement by which the dump's own 'gosem.cut.vars' lays the variable. In a bare row this is a premise. The card (YtbbjpihlielpgaaGreatDoorCards.lean) ties it to the program's text. -/
def laid_unicode_utf8_acceptRanges {H : Type} : DataW H := .agg [.agg [.lit (.int .u8 128), .lit (.int .u8 191)], .agg [.lit (.int .u8 160), .lit (.int .u8 191)], .agg [.lit (.int .u8 128), .lit (.int .u8 159)], .agg [.lit (.int .u8 144), .lit (.int .u8 191)], .agg [.lit (.int .u8 128), .lit (.int .u8 143)], .agg [.lit (.int .u8 0), .lit (.int .u8 0)], .agg [.lit (.int .u8 0), .lit (.int .u8 0)], .agg [.lit (.int .u8 0), .lit (.int .u8 0)], .agg [.lit (.int .u8 0), .lit (.int .u8 0)], .agg [.lit (.int .u8 0), .lit (.int .u8 0)], .agg [.lit (.int .u8 0), .lit (.int .u8 0)], .agg [.lit (.int .u8 0), .lit (.int .u8 0)], .agg [.lit (.int .u8 0), .lit (.int .u8 0)], .agg [.lit (.int .u8 0), .lit (.int .u8 0)], .agg [.lit (.int .u8 0), .lit (.int .u8 0)], .agg [.lit (.int .u8 0), .lit (.int .u8 0)]]
/-- One of Go's own tables, pinned by name: the form's constant. -/
def laid_unicode_utf8_first : DataW Unit := Go.Pinned.utf8First

/-- 'laws.FnReadAt': WHATEVER THE INPUT: true; the input reads as it did. -/
def fnReadAtSpec : ChangeSpec := { name := "fnReadAt", fn := fun _ => fun
  | [d] => { results := [.lit (.bool true)], args := [d] }
  | _ => none }
def fnReadAtRow : OpenClaim := { program := "ytbbjpihlielpgaagreatdoor", sum := "a061a7af203de49e312d460e19e7dad4516572daa721edc51f461a0d07bdb113", func := "loop.example/proofarchive/laws.FnReadAt", spec := "fnReadAt", inPlace := ["internal/bytealg.CountString", "internal/bytealg.IndexByteString", "internal/bytealg.IndexString"], unfollowed := true, recurses := true, named := ["unicode/utf8.first", "unicode/utf8.acceptRanges", "internal/bytealg.MaxLen"], apart := false, laid := [("unicode/utf8.acceptRanges", laid_unicode_utf8_acceptRanges), ("unicode/utf8.first", laid_unicode_utf8_first)] }
def FnReadAtSaid : Prop := fnReadAtRow.holds Tryz.pinned (OpenSpec.ofChange fnReadAtSpec)

/-- ITS FALSE NEIGHBOUR: 'it returns false'. Refute it at one input. -/
def fnReadAtWrong : ChangeSpec := { name := "fnReadAt", fn := fun _ => fun
  | [d] => { results := [.lit (.bool false)], args := [d] }
  | _ => none }
def FnReadAtWrongFalsely : Prop := fnReadAtRow.holds Tryz.pinned (OpenSpec.ofChange fnReadAtWrong)

/-- 'laws.FnNamesAt': WHATEVER THE INPUT: true; the input reads as it did. -/
def fnNamesAtSpec : ChangeSpec := { name := "fnNamesAt", fn := fun _ => fun
  | [d] => { results := [.lit (.bool true)], args := [d] }
  | _ => none }
def fnNamesAtRow : OpenClaim := { program := "ytbbjpihlielpgaagreatdoor", sum := "a061a7af203de49e312d460e19e7dad4516572daa721edc51f461a0d07bdb113", func := "loop.example/proofarchive/laws.FnNamesAt", spec := "fnNamesAt", inPlace := ["internal/bytealg.CountString", "internal/bytealg.IndexByteString", "internal/bytealg.IndexString"], unfollowed := true, recurses := true, named := ["unicode/utf8.first", "unicode/utf8.acceptRanges", "internal/bytealg.MaxLen"], apart := false, laid := [("unicode/utf8.acceptRanges", laid_unicode_utf8_acceptRanges), ("unicode/utf8.first", laid_unicode_utf8_first)] }
def FnNamesAtSaid : Prop := fnNamesAtRow.holds Tryz.pinned (OpenSpec.ofChange fnNamesAtSpec)

/-- ITS FALSE NEIGHBOUR: 'it returns false'. Refute it at one input. -/
def fnNamesAtWrong : ChangeSpec := { name := "fnNamesAt", fn := fun _ => fun
  | [d] => { results := [.lit (.bool false)], args := [d] }
  | _ => none }
def FnNamesAtWrongFalsely : Prop := fnNamesAtRow.holds Tryz.pinned (OpenSpec.ofChange fnNamesAtWrong)

/-- 'laws.FnEmptyRoot': WHATEVER THE INPUT: true; the input reads as it did. -/
def fnEmptyRootSpec : ChangeSpec := { name := "fnEmptyRoot", fn := fun _ => fun
  | [d] => { results := [.lit (.bool true)], args := [d] }
  | _ => none }
def fnEmptyRootRow : OpenClaim := { program := "ytbbjpihlielpgaagreatdoor", sum := "a061a7af203de49e312d460e19e7dad4516572daa721edc51f461a0d07bdb113", func := "loop.example/proofarchive/laws.FnEmptyRoot", spec := "fnEmptyRoot", inPlace := ["slices.overlaps[loop.example/proofarchive/impl.Piece]", "internal/bytealg.CountString", "internal/bytealg.IndexByteString", "internal/bytealg.IndexString"], unfollowed := true, recurses := true, named := ["unicode/utf8.first", "unicode/utf8.acceptRanges", "internal/bytealg.MaxLen"], apart := false, laid := [("unicode/utf8.acceptRanges", laid_unicode_utf8_acceptRanges), ("unicode/utf8.first", laid_unicode_utf8_first)] }
def FnEmptyRootSaid : Prop := fnEmptyRootRow.holds Tryz.pinned (OpenSpec.ofChange fnEmptyRootSpec)

/-- ITS FALSE NEIGHBOUR: 'it returns false'. Refute it at one input. -/
def fnEmptyRootWrong : ChangeSpec := { name := "fnEmptyRoot", fn := fun _ => fun
  | [d] => { results := [.lit (.bool false)], args := [d] }
  | _ => none }
def FnEmptyRootWrongFalsely : Prop := fnEmptyRootRow.holds Tryz.pinned (OpenSpec.ofChange fnEmptyRootWrong)

/-- 'laws.FnWriteAt': WHATEVER THE INPUT: true; the input reads as it did. -/
def fnWriteAtSpec : ChangeSpec := { name := "fnWriteAt", fn := fun _ => fun
  | [d] => { results := [.lit (.bool true)], args := [d] }
  | _ => none }
def fnWriteAtRow : OpenClaim := { program := "ytbbjpihlielpgaagreatdoor", sum := "a061a7af203de49e312d460e19e7dad4516572daa721edc51f461a0d07bdb113", func := "loop.example/proofarchive/laws.FnWriteAt", spec := "fnWriteAt", inPlace := ["internal/bytealg.CountString", "internal/bytealg.IndexByteString", "internal/bytealg.IndexString", "slices.overlaps[loop.example/proofarchive/impl.Piece]", "slices.overlaps[loop.example/proofarchive/impl.Entry]"], unfollowed := true, recurses := true, named := ["unicode/utf8.first", "unicode/utf8.acceptRanges", "internal/bytealg.MaxLen"], apart := false, laid := [("unicode/utf8.acceptRanges", laid_unicode_utf8_acceptRanges), ("unicode/utf8.first", laid_unicode_utf8_first)] }
def FnWriteAtSaid : Prop := fnWriteAtRow.holds Tryz.pinned (OpenSpec.ofChange fnWriteAtSpec)

/-- ITS FALSE NEIGHBOUR: 'it returns false'. Refute it at one input. -/
def fnWriteAtWrong : ChangeSpec := { name := "fnWriteAt", fn := fun _ => fun
  | [d] => { results := [.lit (.bool false)], args := [d] }
  | _ => none }
def FnWriteAtWrongFalsely : Prop := fnWriteAtRow.holds Tryz.pinned (OpenSpec.ofChange fnWriteAtWrong)

/-- 'laws.FnDropAt': WHATEVER THE INPUT: true; the input reads as it did. -/
def fnDropAtSpec : ChangeSpec := { name := "fnDropAt", fn := fun _ => fun
  | [d] => { results := [.lit (.bool true)], args := [d] }
  | _ => none }
def fnDropAtRow : OpenClaim := { program := "ytbbjpihlielpgaagreatdoor", sum := "a061a7af203de49e312d460e19e7dad4516572daa721edc51f461a0d07bdb113", func := "loop.example/proofarchive/laws.FnDropAt", spec := "fnDropAt", inPlace := ["internal/bytealg.CountString", "internal/bytealg.IndexByteString", "internal/bytealg.IndexString", "slices.overlaps[loop.example/proofarchive/impl.Piece]", "slices.overlaps[loop.example/proofarchive/impl.Entry]"], unfollowed := true, recurses := true, named := ["unicode/utf8.first", "unicode/utf8.acceptRanges", "internal/bytealg.MaxLen"], apart := false, laid := [("unicode/utf8.acceptRanges", laid_unicode_utf8_acceptRanges), ("unicode/utf8.first", laid_unicode_utf8_first)] }
def FnDropAtSaid : Prop := fnDropAtRow.holds Tryz.pinned (OpenSpec.ofChange fnDropAtSpec)

/-- ITS FALSE NEIGHBOUR: 'it returns false'. Refute it at one input. -/
def fnDropAtWrong : ChangeSpec := { name := "fnDropAt", fn := fun _ => fun
  | [d] => { results := [.lit (.bool false)], args := [d] }
  | _ => none }
def FnDropAtWrongFalsely : Prop := fnDropAtRow.holds Tryz.pinned (OpenSpec.ofChange fnDropAtWrong)

/-- 'laws.FnWriteBack': WHATEVER THE INPUT: true; the input reads as it did. -/
def fnWriteBackSpec : ChangeSpec := { name := "fnWriteBack", fn := fun _ => fun
  | [d] => { results := [.lit (.bool true)], args := [d] }
  | _ => none }
def fnWriteBackRow : OpenClaim := { program := "ytbbjpihlielpgaagreatdoor", sum := "a061a7af203de49e312d460e19e7dad4516572daa721edc51f461a0d07bdb113", func := "loop.example/proofarchive/laws.FnWriteBack", spec := "fnWriteBack", inPlace := ["internal/bytealg.CountString", "internal/bytealg.IndexByteString", "internal/bytealg.IndexString", "slices.overlaps[loop.example/proofarchive/impl.Piece]", "slices.overlaps[loop.example/proofarchive/impl.Entry]"], unfollowed := true, recurses := true, named := ["unicode/utf8.first", "unicode/utf8.acceptRanges", "internal/bytealg.MaxLen"], apart := false, laid := [("unicode/utf8.acceptRanges", laid_unicode_utf8_acceptRanges), ("unicode/utf8.first", laid_unicode_utf8_first)] }
def FnWriteBackSaid : Prop := fnWriteBackRow.holds Tryz.pinned (OpenSpec.ofChange fnWriteBackSpec)

/-- ITS FALSE NEIGHBOUR: 'it returns false'. Refute it at one input. -/
def fnWriteBackWrong : ChangeSpec := { name := "fnWriteBack", fn := fun _ => fun
  | [d] => { results := [.lit (.bool false)], args := [d] }
  | _ => none }
def FnWriteBackWrongFalsely : Prop := fnWriteBackRow.holds Tryz.pinned (OpenSpec.ofChange fnWriteBackWrong)

/-- 'laws.FnAllFiles': WHATEVER THE INPUT: true; the input reads as it did. -/
def fnAllFilesSpec : ChangeSpec := { name := "fnAllFiles", fn := fun _ => fun
  | [d] => { results := [.lit (.bool true)], args := [d] }
  | _ => none }
def fnAllFilesRow : OpenClaim := { program := "ytbbjpihlielpgaagreatdoor", sum := "a061a7af203de49e312d460e19e7dad4516572daa721edc51f461a0d07bdb113", func := "loop.example/proofarchive/laws.FnAllFiles", spec := "fnAllFiles", inPlace := ["internal/bytealg.IndexByteString", "internal/bytealg.IndexString", "internal/bytealg.CountString"], unfollowed := true, recurses := true, named := ["internal/bytealg.MaxLen", "unicode/utf8.first", "unicode/utf8.acceptRanges"], apart := false, laid := [("unicode/utf8.acceptRanges", laid_unicode_utf8_acceptRanges), ("unicode/utf8.first", laid_unicode_utf8_first)] }
def FnAllFilesSaid : Prop := fnAllFilesRow.holds Tryz.pinned (OpenSpec.ofChange fnAllFilesSpec)

/-- ITS FALSE NEIGHBOUR: 'it returns false'. Refute it at one input. -/
def fnAllFilesWrong : ChangeSpec := { name := "fnAllFiles", fn := fun _ => fun
  | [d] => { results := [.lit (.bool false)], args := [d] }
  | _ => none }
def FnAllFilesWrongFalsely : Prop := fnAllFilesRow.holds Tryz.pinned (OpenSpec.ofChange fnAllFilesWrong)

/-- 'laws.FnFilesNamed': WHATEVER THE INPUT: true; the input reads as it did. -/
def fnFilesNamedSpec : ChangeSpec := { name := "fnFilesNamed", fn := fun _ => fun
  | [d] => { results := [.lit (.bool true)], args := [d] }
  | _ => none }
def fnFilesNamedRow : OpenClaim := { program := "ytbbjpihlielpgaagreatdoor", sum := "a061a7af203de49e312d460e19e7dad4516572daa721edc51f461a0d07bdb113", func := "loop.example/proofarchive/laws.FnFilesNamed", spec := "fnFilesNamed", inPlace := ["internal/bytealg.IndexByteString", "internal/bytealg.IndexString", "internal/bytealg.CountString"], unfollowed := true, recurses := true, named := ["internal/bytealg.MaxLen", "unicode/utf8.first", "unicode/utf8.acceptRanges"], apart := false, laid := [("unicode/utf8.acceptRanges", laid_unicode_utf8_acceptRanges), ("unicode/utf8.first", laid_unicode_utf8_first)] }
def FnFilesNamedSaid : Prop := fnFilesNamedRow.holds Tryz.pinned (OpenSpec.ofChange fnFilesNamedSpec)

/-- ITS FALSE NEIGHBOUR: 'it returns false'. Refute it at one input. -/
def fnFilesNamedWrong : ChangeSpec := { name := "fnFilesNamed", fn := fun _ => fun
  | [d] => { results := [.lit (.bool false)], args := [d] }
  | _ => none }
def FnFilesNamedWrongFalsely : Prop := fnFilesNamedRow.holds Tryz.pinned (OpenSpec.ofChange fnFilesNamedWrong)

/-- 'laws.FnExactDropAt': WHATEVER THE INPUT: true; the input reads as it did. -/
def fnExactDropAtSpec : ChangeSpec := { name := "fnExactDropAt", fn := fun _ => fun
  | [d1, d2, d3] => { results := [.lit (.bool true)], args := [d1, d2, d3] }
  | _ => none }
def fnExactDropAtRow : OpenClaim := { program := "ytbbjpihlielpgaagreatdoor", sum := "a061a7af203de49e312d460e19e7dad4516572daa721edc51f461a0d07bdb113", func := "loop.example/proofarchive/laws.FnExactDropAt", spec := "fnExactDropAt", inPlace := ["internal/bytealg.CountString", "internal/bytealg.IndexByteString", "internal/bytealg.IndexString", "slices.overlaps[loop.example/proofarchive/impl.Piece]", "slices.overlaps[loop.example/proofarchive/impl.Entry]"], unfollowed := true, recurses := true, named := ["unicode/utf8.first", "unicode/utf8.acceptRanges", "internal/bytealg.MaxLen"], apart := false, laid := [("unicode/utf8.acceptRanges", laid_unicode_utf8_acceptRanges), ("unicode/utf8.first", laid_unicode_utf8_first)] }
def FnExactDropAtSaid : Prop := fnExactDropAtRow.holds Tryz.pinned (OpenSpec.ofChange fnExactDropAtSpec)

/-- ITS FALSE NEIGHBOUR: 'it returns false'. Refute it at one input. -/
def fnExactDropAtWrong : ChangeSpec := { name := "fnExactDropAt", fn := fun _ => fun
  | [d1, d2, d3] => { results := [.lit (.bool false)], args := [d1, d2, d3] }
  | _ => none }
def FnExactDropAtWrongFalsely : Prop := fnExactDropAtRow.holds Tryz.pinned (OpenSpec.ofChange fnExactDropAtWrong)

/- THE SECOND FORM. 'bulk': how many values and letters a reading holds, each counted each time it is reached (what is shared counts as often as it is met; a slice's spare places count too). A statement '..UptoSaid' is the law's where the arguments, and the package variables that the reading takes, are together of bulk at most 1048576: NARROWER than '..Said'. Prove '..Said' where nothing that the law and all that it calls make is longer than what came in: it says more and counts as full. Else prove '..UptoSaid'. A law counts once. -/
mutual
def uptoBulk {H : Type} : DataW H → Nat
  | .lit (.string bytes) => bytes.length + 1
  | .lit _ => 1
  | .nil => 1
  | .ptr d => uptoBulk d + 1
  | .slice elems spare => uptoBulkAll elems + uptoBulkAll spare + 1
  | .agg parts => uptoBulkAll parts + 1
  | .iface _ d => uptoBulk d + 1
  | .map entries => uptoBulkEntries entries + 1
  | .held _ => 1
def uptoBulkAll {H : Type} : List (DataW H) → Nat
  | [] => 0
  | d :: r => uptoBulk d + uptoBulkAll r
def uptoBulkEntries {H : Type} : List (Lit × DataW H) → Nat
  | [] => 0
  | x :: r => uptoBulkEntry x + uptoBulkEntries r
def uptoBulkEntry {H : Type} : Lit × DataW H → Nat
  | (.string bytes, d) => bytes.length + uptoBulk d + 1
  | (_, d) => uptoBulk d + 1
 end
def uptoSmall : (H : Type) → List (DataW H) → Bool := fun _ ds => decide (uptoBulkAll ds ≤ 1048576)
def OpenSpec.upto (s : _root_.Go.ChangeSpec) : _root_.Go.OpenSpec := { _root_.Go.OpenSpec.ofChange s with cond := some uptoSmall }

/-- 'laws.FnReadAt', WHERE WHAT IT READS IS OF BULK AT MOST 1048576: true; the input reads as it did. -/
def fnReadAtUptoRow : OpenClaim := { program := "ytbbjpihlielpgaagreatdoor", sum := "a061a7af203de49e312d460e19e7dad4516572daa721edc51f461a0d07bdb113", func := "loop.example/proofarchive/laws.FnReadAt", spec := "fnReadAt", inPlace := ["internal/bytealg.CountString", "internal/bytealg.IndexByteString", "internal/bytealg.IndexString"], unfollowed := true, recurses := true, named := ["unicode/utf8.first", "unicode/utf8.acceptRanges", "internal/bytealg.MaxLen"], apart := false, laid := [("unicode/utf8.acceptRanges", laid_unicode_utf8_acceptRanges), ("unicode/utf8.first", laid_unicode_utf8_first)], narrowed := true }
def FnReadAtUptoSaid : Prop := fnReadAtUptoRow.holds Tryz.pinned (OpenSpec.upto fnReadAtSpec)

/-- 'laws.FnNamesAt', WHERE WHAT IT READS IS OF BULK AT MOST 1048576: true; the input reads as it did. -/
def fnNamesAtUptoRow : OpenClaim := { program := "ytbbjpihlielpgaagreatdoor", sum := "a061a7af203de49e312d460e19e7dad4516572daa721edc51f461a0d07bdb113", func := "loop.example/proofarchive/laws.FnNamesAt", spec := "fnNamesAt", inPlace := ["internal/bytealg.CountString", "internal/bytealg.IndexByteString", "internal/bytealg.IndexString"], unfollowed := true, recurses := true, named := ["unicode/utf8.first", "unicode/utf8.acceptRanges", "internal/bytealg.MaxLen"], apart := false, laid := [("unicode/utf8.acceptRanges", laid_unicode_utf8_acceptRanges), ("unicode/utf8.first", laid_unicode_utf8_first)], narrowed := true }
def FnNamesAtUptoSaid : Prop := fnNamesAtUptoRow.holds Tryz.pinned (OpenSpec.upto fnNamesAtSpec)

/-- 'laws.FnEmptyRoot', WHERE WHAT IT READS IS OF BULK AT MOST 1048576: true; the input reads as it did. -/
def fnEmptyRootUptoRow : OpenClaim := { program := "ytbbjpihlielpgaagreatdoor", sum := "a061a7af203de49e312d460e19e7dad4516572daa721edc51f461a0d07bdb113", func := "loop.example/proofarchive/laws.FnEmptyRoot", spec := "fnEmptyRoot", inPlace := ["slices.overlaps[loop.example/proofarchive/impl.Piece]", "internal/bytealg.CountString", "internal/bytealg.IndexByteString", "internal/bytealg.IndexString"], unfollowed := true, recurses := true, named := ["unicode/utf8.first", "unicode/utf8.acceptRanges", "internal/bytealg.MaxLen"], apart := false, laid := [("unicode/utf8.acceptRanges", laid_unicode_utf8_acceptRanges), ("unicode/utf8.first", laid_unicode_utf8_first)], narrowed := true }
def FnEmptyRootUptoSaid : Prop := fnEmptyRootUptoRow.holds Tryz.pinned (OpenSpec.upto fnEmptyRootSpec)

/-- 'laws.FnWriteAt', WHERE WHAT IT READS IS OF BULK AT MOST 1048576: true; the input reads as it did. -/
def fnWriteAtUptoRow : OpenClaim := { program := "ytbbjpihlielpgaagreatdoor", sum := "a061a7af203de49e312d460e19e7dad4516572daa721edc51f461a0d07bdb113", func := "loop.example/proofarchive/laws.FnWriteAt", spec := "fnWriteAt", inPlace := ["internal/bytealg.CountString", "internal/bytealg.IndexByteString", "internal/bytealg.IndexString", "slices.overlaps[loop.example/proofarchive/impl.Piece]", "slices.overlaps[loop.example/proofarchive/impl.Entry]"], unfollowed := true, recurses := true, named := ["unicode/utf8.first", "unicode/utf8.acceptRanges", "internal/bytealg.MaxLen"], apart := false, laid := [("unicode/utf8.acceptRanges", laid_unicode_utf8_acceptRanges), ("unicode/utf8.first", laid_unicode_utf8_first)], narrowed := true }
def FnWriteAtUptoSaid : Prop := fnWriteAtUptoRow.holds Tryz.pinned (OpenSpec.upto fnWriteAtSpec)

/-- 'laws.FnDropAt', WHERE WHAT IT READS IS OF BULK AT MOST 1048576: true; the input reads as it did. -/
def fnDropAtUptoRow : OpenClaim := { program := "ytbbjpihlielpgaagreatdoor", sum := "a061a7af203de49e312d460e19e7dad4516572daa721edc51f461a0d07bdb113", func := "loop.example/proofarchive/laws.FnDropAt", spec := "fnDropAt", inPlace := ["internal/bytealg.CountString", "internal/bytealg.IndexByteString", "internal/bytealg.IndexString", "slices.overlaps[loop.example/proofarchive/impl.Piece]", "slices.overlaps[loop.example/proofarchive/impl.Entry]"], unfollowed := true, recurses := true, named := ["unicode/utf8.first", "unicode/utf8.acceptRanges", "internal/bytealg.MaxLen"], apart := false, laid := [("unicode/utf8.acceptRanges", laid_unicode_utf8_acceptRanges), ("unicode/utf8.first", laid_unicode_utf8_first)], narrowed := true }
def FnDropAtUptoSaid : Prop := fnDropAtUptoRow.holds Tryz.pinned (OpenSpec.upto fnDropAtSpec)

/-- 'laws.FnWriteBack', WHERE WHAT IT READS IS OF BULK AT MOST 1048576: true; the input reads as it did. -/
def fnWriteBackUptoRow : OpenClaim := { program := "ytbbjpihlielpgaagreatdoor", sum := "a061a7af203de49e312d460e19e7dad4516572daa721edc51f461a0d07bdb113", func := "loop.example/proofarchive/laws.FnWriteBack", spec := "fnWriteBack", inPlace := ["internal/bytealg.CountString", "internal/bytealg.IndexByteString", "internal/bytealg.IndexString", "slices.overlaps[loop.example/proofarchive/impl.Piece]", "slices.overlaps[loop.example/proofarchive/impl.Entry]"], unfollowed := true, recurses := true, named := ["unicode/utf8.first", "unicode/utf8.acceptRanges", "internal/bytealg.MaxLen"], apart := false, laid := [("unicode/utf8.acceptRanges", laid_unicode_utf8_acceptRanges), ("unicode/utf8.first", laid_unicode_utf8_first)], narrowed := true }
def FnWriteBackUptoSaid : Prop := fnWriteBackUptoRow.holds Tryz.pinned (OpenSpec.upto fnWriteBackSpec)

/-- 'laws.FnAllFiles', WHERE WHAT IT READS IS OF BULK AT MOST 1048576: true; the input reads as it did. -/
def fnAllFilesUptoRow : OpenClaim := { program := "ytbbjpihlielpgaagreatdoor", sum := "a061a7af203de49e312d460e19e7dad4516572daa721edc51f461a0d07bdb113", func := "loop.example/proofarchive/laws.FnAllFiles", spec := "fnAllFiles", inPlace := ["internal/bytealg.IndexByteString", "internal/bytealg.IndexString", "internal/bytealg.CountString"], unfollowed := true, recurses := true, named := ["internal/bytealg.MaxLen", "unicode/utf8.first", "unicode/utf8.acceptRanges"], apart := false, laid := [("unicode/utf8.acceptRanges", laid_unicode_utf8_acceptRanges), ("unicode/utf8.first", laid_unicode_utf8_first)], narrowed := true }
def FnAllFilesUptoSaid : Prop := fnAllFilesUptoRow.holds Tryz.pinned (OpenSpec.upto fnAllFilesSpec)

/-- 'laws.FnFilesNamed', WHERE WHAT IT READS IS OF BULK AT MOST 1048576: true; the input reads as it did. -/
def fnFilesNamedUptoRow : OpenClaim := { program := "ytbbjpihlielpgaagreatdoor", sum := "a061a7af203de49e312d460e19e7dad4516572daa721edc51f461a0d07bdb113", func := "loop.example/proofarchive/laws.FnFilesNamed", spec := "fnFilesNamed", inPlace := ["internal/bytealg.IndexByteString", "internal/bytealg.IndexString", "internal/bytealg.CountString"], unfollowed := true, recurses := true, named := ["internal/bytealg.MaxLen", "unicode/utf8.first", "unicode/utf8.acceptRanges"], apart := false, laid := [("unicode/utf8.acceptRanges", laid_unicode_utf8_acceptRanges), ("unicode/utf8.first", laid_unicode_utf8_first)], narrowed := true }
def FnFilesNamedUptoSaid : Prop := fnFilesNamedUptoRow.holds Tryz.pinned (OpenSpec.upto fnFilesNamedSpec)

/-- 'laws.FnExactDropAt', WHERE WHAT IT READS IS OF BULK AT MOST 1048576: true; the input reads as it did. -/
def fnExactDropAtUptoRow : OpenClaim := { program := "ytbbjpihlielpgaagreatdoor", sum := "a061a7af203de49e312d460e19e7dad4516572daa721edc51f461a0d07bdb113", func := "loop.example/proofarchive/laws.FnExactDropAt", spec := "fnExactDropAt", inPlace := ["internal/bytealg.CountString", "internal/bytealg.IndexByteString", "internal/bytealg.IndexString", "slices.overlaps[loop.example/proofarchive/impl.Piece]", "slices.overlaps[loop.example/proofarchive/impl.Entry]"], unfollowed := true, recurses := true, named := ["unicode/utf8.first", "unicode/utf8.acceptRanges", "internal/bytealg.MaxLen"], apart := false, laid := [("unicode/utf8.acceptRanges", laid_unicode_utf8_acceptRanges), ("unicode/utf8.first", laid_unicode_utf8_first)], narrowed := true }
def FnExactDropAtUptoSaid : Prop := fnExactDropAtUptoRow.holds Tryz.pinned (OpenSpec.upto fnExactDropAtSpec)

end Rows
end Go.Proofs.YtbbjpihlielpgaaGreatDoor
