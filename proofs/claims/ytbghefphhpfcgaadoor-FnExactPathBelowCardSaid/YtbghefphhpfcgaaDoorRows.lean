/-
  NARROWER THAN 'FOR EVERY INPUT', by the rows' own cells (each row's printed sentence says how): FnJoinPath: laid · FnPathParts: laid · FnPathBelow: laid · FnExactPathParts: laid · FnExactPathBelow: laid.
  DERIVED. THE GIVEN ROWS OF THIS SEAT. 5 by the template 'for every input the law returns true; each argument reads behind the call as it read before'; 0 by the template 'total and deterministic' (their statements: YtbghefphhpfcgaaDoorTotals.lean).
  GIVEN WITH THE SEED: the statements are not yours to turn. If you find one false, say at which input.
  Laid BY PROGRAM, IN A SANDBOX (cutbox-rows.mjs): the forced cells as the released guide's own fill.sh prints them over the translation 4ac8265aee6164e1… (all of the seat's roots in one cut). By AI agents, Wed Nov 11 2026. No macro, syntax, notation, axiom, sorry.
-/
import Derived.Test.YtbghefphhpfcgaaDoorChecked
import GoSem.PinnedTables
import GoSem.Claim
import GoSem.ClaimJoined
import GoSem.ClaimMapViews
import Derived.JoinedTies
import Derived.KernelRfl
namespace Go.Proofs.YtbghefphhpfcgaaDoor
/- THE CELL 'sum', in the pinned program and in every row, IS THE sha256 OF THE DUMP (.gsa) THAT YtbghefphhpfcgaaDoorProg.lean LOADS. Nothing in Lean hashes anything: it is a label: what it is worth is what the hold of that sum in a sandbox is worth. -/
noncomputable def Tryd.pinned : Pinned := { name := "ytbghefphhpfcgaadoor", sum := "4ac8265aee6164e1b452edd1f7be0027b01bb7d9552fa7c52070fb749d164231", checked := Tryd.checked }
namespace Rows
def none {H : Type} : Left H := { results := [], args := [] }

/- WHAT THE LISTED PACKAGE-LEVEL VARIABLES READ AS WHEN THE CALL BEGINS. Each datum BY PROGRAM (the guide's laid-datum.mjs) off the statement by which the dump's own 'gosem.cut.vars' lays the variable. In a bare row this is a premise. The card (YtbghefphhpfcgaaDoorCards.lean) ties it to the program's text. -/
def laid_unicode_utf8_acceptRanges {H : Type} : DataW H := .agg [.agg [.lit (.int .u8 128), .lit (.int .u8 191)], .agg [.lit (.int .u8 160), .lit (.int .u8 191)], .agg [.lit (.int .u8 128), .lit (.int .u8 159)], .agg [.lit (.int .u8 144), .lit (.int .u8 191)], .agg [.lit (.int .u8 128), .lit (.int .u8 143)], .agg [.lit (.int .u8 0), .lit (.int .u8 0)], .agg [.lit (.int .u8 0), .lit (.int .u8 0)], .agg [.lit (.int .u8 0), .lit (.int .u8 0)], .agg [.lit (.int .u8 0), .lit (.int .u8 0)], .agg [.lit (.int .u8 0), .lit (.int .u8 0)], .agg [.lit (.int .u8 0), .lit (.int .u8 0)], .agg [.lit (.int .u8 0), .lit (.int .u8 0)], .agg [.lit (.int .u8 0), .lit (.int .u8 0)], .agg [.lit (.int .u8 0), .lit (.int .u8 0)], .agg [.lit (.int .u8 0), .lit (.int .u8 0)], .agg [.lit (.int .u8 0), .lit (.int .u8 0)]]
/-- One of Go's own tables, pinned by name: the form's constant. -/
def laid_unicode_utf8_first : DataW Unit := Go.Pinned.utf8First

/-- 'laws.FnJoinPath': WHATEVER THE INPUT: true; the input reads as it did. -/
def fnJoinPathSpec : ChangeSpec := { name := "fnJoinPath", fn := fun _ => fun
  | [d] => { results := [.lit (.bool true)], args := [d] }
  | _ => none }
def fnJoinPathRow : OpenClaim := { program := "ytbghefphhpfcgaadoor", sum := "4ac8265aee6164e1b452edd1f7be0027b01bb7d9552fa7c52070fb749d164231", func := "loop.example/proofarchive/laws.FnJoinPath", spec := "fnJoinPath", inPlace := ["internal/abi.NoEscape", "internal/bytealg.MakeNoZero", "internal/bytealg.CountString", "internal/bytealg.IndexByteString", "internal/bytealg.IndexString"], named := ["unicode/utf8.first", "unicode/utf8.acceptRanges", "internal/bytealg.MaxLen"], apart := false, laid := [("unicode/utf8.acceptRanges", laid_unicode_utf8_acceptRanges), ("unicode/utf8.first", laid_unicode_utf8_first)] }
def FnJoinPathSaid : Prop := fnJoinPathRow.holds Tryd.pinned (OpenSpec.ofChange fnJoinPathSpec)

/-- ITS FALSE NEIGHBOUR: 'it returns false'. Refute it at one input. -/
def fnJoinPathWrong : ChangeSpec := { name := "fnJoinPath", fn := fun _ => fun
  | [d] => { results := [.lit (.bool false)], args := [d] }
  | _ => none }
def FnJoinPathWrongFalsely : Prop := fnJoinPathRow.holds Tryd.pinned (OpenSpec.ofChange fnJoinPathWrong)

/-- 'laws.FnPathParts': WHATEVER THE INPUT: true; the input reads as it did. -/
def fnPathPartsSpec : ChangeSpec := { name := "fnPathParts", fn := fun _ => fun
  | [d] => { results := [.lit (.bool true)], args := [d] }
  | _ => none }
def fnPathPartsRow : OpenClaim := { program := "ytbghefphhpfcgaadoor", sum := "4ac8265aee6164e1b452edd1f7be0027b01bb7d9552fa7c52070fb749d164231", func := "loop.example/proofarchive/laws.FnPathParts", spec := "fnPathParts", inPlace := ["internal/bytealg.CountString", "internal/bytealg.IndexByteString", "internal/bytealg.IndexString", "internal/abi.NoEscape", "internal/bytealg.MakeNoZero"], named := ["unicode/utf8.first", "unicode/utf8.acceptRanges", "internal/bytealg.MaxLen"], apart := false, laid := [("unicode/utf8.acceptRanges", laid_unicode_utf8_acceptRanges), ("unicode/utf8.first", laid_unicode_utf8_first)] }
def FnPathPartsSaid : Prop := fnPathPartsRow.holds Tryd.pinned (OpenSpec.ofChange fnPathPartsSpec)

/-- ITS FALSE NEIGHBOUR: 'it returns false'. Refute it at one input. -/
def fnPathPartsWrong : ChangeSpec := { name := "fnPathParts", fn := fun _ => fun
  | [d] => { results := [.lit (.bool false)], args := [d] }
  | _ => none }
def FnPathPartsWrongFalsely : Prop := fnPathPartsRow.holds Tryd.pinned (OpenSpec.ofChange fnPathPartsWrong)

/-- 'laws.FnPathBelow': WHATEVER THE INPUT: true; the input reads as it did. -/
def fnPathBelowSpec : ChangeSpec := { name := "fnPathBelow", fn := fun _ => fun
  | [d] => { results := [.lit (.bool true)], args := [d] }
  | _ => none }
def fnPathBelowRow : OpenClaim := { program := "ytbghefphhpfcgaadoor", sum := "4ac8265aee6164e1b452edd1f7be0027b01bb7d9552fa7c52070fb749d164231", func := "loop.example/proofarchive/laws.FnPathBelow", spec := "fnPathBelow", inPlace := ["internal/bytealg.CountString", "internal/bytealg.IndexByteString", "internal/bytealg.IndexString"], named := ["unicode/utf8.first", "unicode/utf8.acceptRanges", "internal/bytealg.MaxLen"], apart := false, laid := [("unicode/utf8.acceptRanges", laid_unicode_utf8_acceptRanges), ("unicode/utf8.first", laid_unicode_utf8_first)] }
def FnPathBelowSaid : Prop := fnPathBelowRow.holds Tryd.pinned (OpenSpec.ofChange fnPathBelowSpec)

/-- ITS FALSE NEIGHBOUR: 'it returns false'. Refute it at one input. -/
def fnPathBelowWrong : ChangeSpec := { name := "fnPathBelow", fn := fun _ => fun
  | [d] => { results := [.lit (.bool false)], args := [d] }
  | _ => none }
def FnPathBelowWrongFalsely : Prop := fnPathBelowRow.holds Tryd.pinned (OpenSpec.ofChange fnPathBelowWrong)

/-- 'laws.FnExactPathParts': WHATEVER THE INPUT: true; the input reads as it did. -/
def fnExactPathPartsSpec : ChangeSpec := { name := "fnExactPathParts", fn := fun _ => fun
  | [d] => { results := [.lit (.bool true)], args := [d] }
  | _ => none }
def fnExactPathPartsRow : OpenClaim := { program := "ytbghefphhpfcgaadoor", sum := "4ac8265aee6164e1b452edd1f7be0027b01bb7d9552fa7c52070fb749d164231", func := "loop.example/proofarchive/laws.FnExactPathParts", spec := "fnExactPathParts", inPlace := ["internal/bytealg.CountString", "internal/bytealg.IndexByteString", "internal/bytealg.IndexString"], named := ["unicode/utf8.first", "unicode/utf8.acceptRanges", "internal/bytealg.MaxLen"], apart := false, laid := [("unicode/utf8.acceptRanges", laid_unicode_utf8_acceptRanges), ("unicode/utf8.first", laid_unicode_utf8_first)] }
def FnExactPathPartsSaid : Prop := fnExactPathPartsRow.holds Tryd.pinned (OpenSpec.ofChange fnExactPathPartsSpec)

/-- ITS FALSE NEIGHBOUR: 'it returns false'. Refute it at one input. -/
def fnExactPathPartsWrong : ChangeSpec := { name := "fnExactPathParts", fn := fun _ => fun
  | [d] => { results := [.lit (.bool false)], args := [d] }
  | _ => none }
def FnExactPathPartsWrongFalsely : Prop := fnExactPathPartsRow.holds Tryd.pinned (OpenSpec.ofChange fnExactPathPartsWrong)

/-- 'laws.FnExactPathBelow': WHATEVER THE INPUT: true; the input reads as it did. -/
def fnExactPathBelowSpec : ChangeSpec := { name := "fnExactPathBelow", fn := fun _ => fun
  | [d1, d2] => { results := [.lit (.bool true)], args := [d1, d2] }
  | _ => none }
def fnExactPathBelowRow : OpenClaim := { program := "ytbghefphhpfcgaadoor", sum := "4ac8265aee6164e1b452edd1f7be0027b01bb7d9552fa7c52070fb749d164231", func := "loop.example/proofarchive/laws.FnExactPathBelow", spec := "fnExactPathBelow", inPlace := ["internal/bytealg.CountString", "internal/bytealg.IndexByteString", "internal/bytealg.IndexString"], named := ["unicode/utf8.first", "unicode/utf8.acceptRanges", "internal/bytealg.MaxLen"], apart := false, laid := [("unicode/utf8.acceptRanges", laid_unicode_utf8_acceptRanges), ("unicode/utf8.first", laid_unicode_utf8_first)] }
def FnExactPathBelowSaid : Prop := fnExactPathBelowRow.holds Tryd.pinned (OpenSpec.ofChange fnExactPathBelowSpec)

/-- ITS FALSE NEIGHBOUR: 'it returns false'. Refute it at one input. -/
def fnExactPathBelowWrong : ChangeSpec := { name := "fnExactPathBelow", fn := fun _ => fun
  | [d1, d2] => { results := [.lit (.bool false)], args := [d1, d2] }
  | _ => none }
def FnExactPathBelowWrongFalsely : Prop := fnExactPathBelowRow.holds Tryd.pinned (OpenSpec.ofChange fnExactPathBelowWrong)

/- THE SECOND FORM. 'bulk': how many values and letters a reading holds, each counted each time it is reached (what is shared counts as often as it is met; a slice's spare places count too). A statement '..UptoSaid' is the law's where the arguments, and the package variables that the reading takes, are together of bulk at most 1048576: NARROWER than '..Said'. Prove '..Said' where nothing that the law and all that it calls make is longer than what came in: it says more and counts as full. Else prove '..UptoSaid'. A law counts once. -/
mutual
def uptoBulk {H : Type} : DataW H → Nat
  | .lit (.string bytes) => bytes.length + 1
  | .lit _ => 1
  | .nil => 1
  | .ptr d => uptoBulk d + 1
  | .slice elems spare => uptoBulkAll elems + uptoBulkAll spare + 1
  | .agg parts => uptoBulkAll parts + 1
  | .iface _ d => uptoBulk d + 1
  | .map entries => uptoBulkEntries entries + 1
  | .held _ => 1
def uptoBulkAll {H : Type} : List (DataW H) → Nat
  | [] => 0
  | d :: r => uptoBulk d + uptoBulkAll r
def uptoBulkEntries {H : Type} : List (Lit × DataW H) → Nat
  | [] => 0
  | x :: r => uptoBulkEntry x + uptoBulkEntries r
def uptoBulkEntry {H : Type} : Lit × DataW H → Nat
  | (.string bytes, d) => bytes.length + uptoBulk d + 1
  | (_, d) => uptoBulk d + 1
 end
def uptoSmall : (H : Type) → List (DataW H) → Bool := fun _ ds => decide (uptoBulkAll ds ≤ 1048576)
def OpenSpec.upto (s : _root_.Go.ChangeSpec) : _root_.Go.OpenSpec := { _root_.Go.OpenSpec.ofChange s with cond := some uptoSmall }

/-- 'laws.FnJoinPath', WHERE WHAT IT READS IS OF BULK AT MOST 1048576: true; the input reads as it did. -/
def fnJoinPathUptoRow : OpenClaim := { program := "ytbghefphhpfcgaadoor", sum := "4ac8265aee6164e1b452edd1f7be0027b01bb7d9552fa7c52070fb749d164231", func := "loop.example/proofarchive/laws.FnJoinPath", spec := "fnJoinPath", inPlace := ["internal/abi.NoEscape", "internal/bytealg.MakeNoZero", "internal/bytealg.CountString", "internal/bytealg.IndexByteString", "internal/bytealg.IndexString"], named := ["unicode/utf8.first", "unicode/utf8.acceptRanges", "internal/bytealg.MaxLen"], apart := false, laid := [("unicode/utf8.acceptRanges", laid_unicode_utf8_acceptRanges), ("unicode/utf8.first", laid_unicode_utf8_first)], narrowed := true }
def FnJoinPathUptoSaid : Prop := fnJoinPathUptoRow.holds Tryd.pinned (OpenSpec.upto fnJoinPathSpec)

/-- 'laws.FnPathParts', WHERE WHAT IT READS IS OF BULK AT MOST 1048576: true; the input reads as it did. -/
def fnPathPartsUptoRow : OpenClaim := { program := "ytbghefphhpfcgaadoor", sum := "4ac8265aee6164e1b452edd1f7be0027b01bb7d9552fa7c52070fb749d164231", func := "loop.example/proofarchive/laws.FnPathParts", spec := "fnPathParts", inPlace := ["internal/bytealg.CountString", "internal/bytealg.IndexByteString", "internal/bytealg.IndexString", "internal/abi.NoEscape", "internal/bytealg.MakeNoZero"], named := ["unicode/utf8.first", "unicode/utf8.acceptRanges", "internal/bytealg.MaxLen"], apart := false, laid := [("unicode/utf8.acceptRanges", laid_unicode_utf8_acceptRanges), ("unicode/utf8.first", laid_unicode_utf8_first)], narrowed := true }
def FnPathPartsUptoSaid : Prop := fnPathPartsUptoRow.holds Tryd.pinned (OpenSpec.upto fnPathPartsSpec)

/-- 'laws.FnPathBelow', WHERE WHAT IT READS IS OF BULK AT MOST 1048576: true; the input reads as it did. -/
def fnPathBelowUptoRow : OpenClaim := { program := "ytbghefphhpfcgaadoor", sum := "4ac8265aee6164e1b452edd1f7be0027b01bb7d9552fa7c52070fb749d164231", func := "loop.example/proofarchive/laws.FnPathBelow", spec := "fnPathBelow", inPlace := ["internal/bytealg.CountString", "internal/bytealg.IndexByteString", "internal/bytealg.IndexString"], named := ["unicode/utf8.first", "unicode/utf8.acceptRanges", "internal/bytealg.MaxLen"], apart := false, laid := [("unicode/utf8.acceptRanges", laid_unicode_utf8_acceptRanges), ("unicode/utf8.first", laid_unicode_utf8_first)], narrowed := true }
def FnPathBelowUptoSaid : Prop := fnPathBelowUptoRow.holds Tryd.pinned (OpenSpec.upto fnPathBelowSpec)

/-- 'laws.FnExactPathParts', WHERE WHAT IT READS IS OF BULK AT MOST 1048576: true; the input reads as it did. -/
def fnExactPathPartsUptoRow : OpenClaim := { program := "ytbghefphhpfcgaadoor", sum := "4ac8265aee6164e1b452edd1f7be0027b01bb7d9552fa7c52070fb749d164231", func := "loop.example/proofarchive/laws.FnExactPathParts", spec := "fnExactPathParts", inPlace := ["internal/bytealg.CountString", "internal/bytealg.IndexByteString", "internal/bytealg.IndexString"], named := ["unicode/utf8.first", "unicode/utf8.acceptRanges", "internal/bytealg.MaxLen"], apart := false, laid := [("unicode/utf8.acceptRanges", laid_unicode_utf8_acceptRanges), ("unicode/utf8.first", laid_unicode_utf8_first)], narrowed := true }
def FnExactPathPartsUptoSaid : Prop := fnExactPathPartsUptoRow.holds Tryd.pinned (OpenSpec.upto fnExactPathPartsSpec)

/-- 'laws.FnExactPathBelow', WHERE WHAT IT READS IS OF BULK AT MOST 1048576: true; the input reads as it did. -/
def fnExactPathBelowUptoRow : OpenClaim := { program := "ytbghefphhpfcgaadoor", sum := "4ac8265aee6164e1b452edd1f7be0027b01bb7d9552fa7c52070fb749d164231", func := "loop.example/proofarchive/laws.FnExactPathBelow", spec := "fnExactPathBelow", inPlace := ["internal/bytealg.CountString", "internal/bytealg.IndexByteString", "internal/bytealg.IndexString"], named := ["unicode/utf8.first", "unicode/utf8.acceptRanges", "internal/bytealg.MaxLen"], apart := false, laid := [("unicode/utf8.acceptRanges", laid_unicode_utf8_acceptRanges), ("unicode/utf8.first", laid_unicode_utf8_first)], narrowed := true }
def FnExactPathBelowUptoSaid : Prop := fnExactPathBelowUptoRow.holds Tryd.pinned (OpenSpec.upto fnExactPathBelowSpec)

end Rows
end Go.Proofs.YtbghefphhpfcgaaDoor
