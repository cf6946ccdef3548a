/-
  NARROWER THAN 'FOR EVERY INPUT', by the rows' own cells (each row's printed sentence says how): FnSameFiles: laid · FnChangesOf: laid · FnCarryChanges: laid · FnChangesCarry: laid · FnExactChangesOf: laid · FnExactCarryChanges: laid.
  DERIVED. THE GIVEN ROWS OF THIS SEAT. 6 by the template 'for every input the law returns true; each argument reads behind the call as it read before'; 0 by the template 'total and deterministic' (their statements: YtglajbmopiolhaaGreatDoorTotals.lean).
  GIVEN WITH THE SEED: the statements are not yours to turn. If you find one false, say at which input.
  Laid BY PROGRAM, IN A SANDBOX (cutbox-rows.mjs): the forced cells as the released guide's own fill.sh prints them over the translation eacaa320fa4ff6cd… (all of the seat's roots in one cut). By AI agents, Wed Nov 11 2026. No macro, syntax, notation, axiom, sorry.
-/
import Derived.Test.YtglajbmopiolhaaGreatDoorChecked
import GoSem.PinnedTables
import GoSem.Claim
import GoSem.ClaimJoined
import GoSem.ClaimMapViews
import Derived.JoinedTies
import Derived.KernelRfl
namespace Go.Proofs.YtglajbmopiolhaaGreatDoor
/- THE CELL 'sum', in the pinned program and in every row, IS THE sha256 OF THE DUMP (.gsa) THAT YtglajbmopiolhaaGreatDoorProg.lean LOADS. Nothing in Lean hashes anything: it is a label: what it is worth is what the hold of that sum in a sandbox is worth. -/
noncomputable def Tryz.pinned : Pinned := { name := "ytglajbmopiolhaagreatdoor", sum := "eacaa320fa4ff6cd31c68af51c8c246591072a44a23dda02f28e98543699c8de", checked := Tryz.checked }
namespace Rows
def none {H : Type} : Left H := { results := [], args := [] }

/- WHAT THE LISTED PACKAGE-LEVEL VARIABLES READ AS WHEN THE CALL BEGINS. Each datum BY PROGRAM (the guide's laid-datum.mjs) off the statement by which the dump's own 'gosem.cut.vars' lays the variable. In a bare row this is a premise. The card (YtglajbmopiolhaaGreatDoorCards.lean) ties it to the program's text. -/
def laid_unicode_utf8_acceptRanges {H : Type} : DataW H := .agg [.agg [.lit (.int .u8 128), .lit (.int .u8 191)], .agg [.lit (.int .u8 160), .lit (.int .u8 191)], .agg [.lit (.int .u8 128), .lit (.int .u8 159)], .agg [.lit (.int .u8 144), .lit (.int .u8 191)], .agg [.lit (.int .u8 128), .lit (.int .u8 143)], .agg [.lit (.int .u8 0), .lit (.int .u8 0)], .agg [.lit (.int .u8 0), .lit (.int .u8 0)], .agg [.lit (.int .u8 0), .lit (.int .u8 0)], .agg [.lit (.int .u8 0), .lit (.int .u8 0)], .agg [.lit (.int .u8 0), .lit (.int .u8 0)], .agg [.lit (.int .u8 0), .lit (.int .u8 0)], .agg [.lit (.int .u8 0), .lit (.int .u8 0)], .agg [.lit (.int .u8 0), .lit (.int .u8 0)], .agg [.lit (.int .u8 0), .lit (.int .u8 0)], .agg [.lit (.int .u8 0), .lit (.int .u8 0)], .agg [.lit (.int .u8 0), .lit (.int .u8 0)]]
/-- One of Go's own tables, pinned by name: the form's constant. -/
def laid_unicode_utf8_first : DataW Unit := Go.Pinned.utf8First

/-- 'laws.FnSameFiles': WHATEVER THE INPUT: true; the input reads as it did. -/
def fnSameFilesSpec : ChangeSpec := { name := "fnSameFiles", fn := fun _ => fun
  | [d] => { results := [.lit (.bool true)], args := [d] }
  | _ => none }
def fnSameFilesRow : OpenClaim := { program := "ytglajbmopiolhaagreatdoor", sum := "eacaa320fa4ff6cd31c68af51c8c246591072a44a23dda02f28e98543699c8de", func := "loop.example/proofarchive/laws.FnSameFiles", spec := "fnSameFiles", inPlace := ["internal/bytealg.IndexByteString", "internal/bytealg.IndexString", "internal/bytealg.CountString"], unfollowed := true, recurses := true, named := ["internal/bytealg.MaxLen", "unicode/utf8.first", "unicode/utf8.acceptRanges"], apart := false, laid := [("unicode/utf8.acceptRanges", laid_unicode_utf8_acceptRanges), ("unicode/utf8.first", laid_unicode_utf8_first)] }
def FnSameFilesSaid : Prop := fnSameFilesRow.holds Tryz.pinned (OpenSpec.ofChange fnSameFilesSpec)

/-- ITS FALSE NEIGHBOUR: 'it returns false'. Refute it at one input. -/
def fnSameFilesWrong : ChangeSpec := { name := "fnSameFiles", fn := fun _ => fun
  | [d] => { results := [.lit (.bool false)], args := [d] }
  | _ => none }
def FnSameFilesWrongFalsely : Prop := fnSameFilesRow.holds Tryz.pinned (OpenSpec.ofChange fnSameFilesWrong)

/-- 'laws.FnChangesOf': WHATEVER THE INPUT: true; the input reads as it did. -/
def fnChangesOfSpec : ChangeSpec := { name := "fnChangesOf", fn := fun _ => fun
  | [d] => { results := [.lit (.bool true)], args := [d] }
  | _ => none }
def fnChangesOfRow : OpenClaim := { program := "ytglajbmopiolhaagreatdoor", sum := "eacaa320fa4ff6cd31c68af51c8c246591072a44a23dda02f28e98543699c8de", func := "loop.example/proofarchive/laws.FnChangesOf", spec := "fnChangesOf", inPlace := ["internal/bytealg.IndexByteString", "internal/bytealg.IndexString", "internal/bytealg.CountString"], unfollowed := true, recurses := true, named := ["internal/bytealg.MaxLen", "unicode/utf8.first", "unicode/utf8.acceptRanges"], apart := false, laid := [("unicode/utf8.acceptRanges", laid_unicode_utf8_acceptRanges), ("unicode/utf8.first", laid_unicode_utf8_first)] }
def FnChangesOfSaid : Prop := fnChangesOfRow.holds Tryz.pinned (OpenSpec.ofChange fnChangesOfSpec)

/-- ITS FALSE NEIGHBOUR: 'it returns false'. Refute it at one input. -/
def fnChangesOfWrong : ChangeSpec := { name := "fnChangesOf", fn := fun _ => fun
  | [d] => { results := [.lit (.bool false)], args := [d] }
  | _ => none }
def FnChangesOfWrongFalsely : Prop := fnChangesOfRow.holds Tryz.pinned (OpenSpec.ofChange fnChangesOfWrong)

/-- 'laws.FnCarryChanges': WHATEVER THE INPUT: true; the input reads as it did. -/
def fnCarryChangesSpec : ChangeSpec := { name := "fnCarryChanges", fn := fun _ => fun
  | [d] => { results := [.lit (.bool true)], args := [d] }
  | _ => none }
def fnCarryChangesRow : OpenClaim := { program := "ytglajbmopiolhaagreatdoor", sum := "eacaa320fa4ff6cd31c68af51c8c246591072a44a23dda02f28e98543699c8de", func := "loop.example/proofarchive/laws.FnCarryChanges", spec := "fnCarryChanges", inPlace := ["internal/bytealg.CountString", "internal/bytealg.IndexByteString", "internal/bytealg.IndexString", "slices.overlaps[loop.example/proofarchive/impl.Piece]", "slices.overlaps[loop.example/proofarchive/impl.Entry]"], unfollowed := true, recurses := true, named := ["unicode/utf8.first", "unicode/utf8.acceptRanges", "internal/bytealg.MaxLen"], apart := false, laid := [("unicode/utf8.acceptRanges", laid_unicode_utf8_acceptRanges), ("unicode/utf8.first", laid_unicode_utf8_first)] }
def FnCarryChangesSaid : Prop := fnCarryChangesRow.holds Tryz.pinned (OpenSpec.ofChange fnCarryChangesSpec)

/-- ITS FALSE NEIGHBOUR: 'it returns false'. Refute it at one input. -/
def fnCarryChangesWrong : ChangeSpec := { name := "fnCarryChanges", fn := fun _ => fun
  | [d] => { results := [.lit (.bool false)], args := [d] }
  | _ => none }
def FnCarryChangesWrongFalsely : Prop := fnCarryChangesRow.holds Tryz.pinned (OpenSpec.ofChange fnCarryChangesWrong)

/-- 'laws.FnChangesCarry': WHATEVER THE INPUT: true; the input reads as it did. -/
def fnChangesCarrySpec : ChangeSpec := { name := "fnChangesCarry", fn := fun _ => fun
  | [d] => { results := [.lit (.bool true)], args := [d] }
  | _ => none }
def fnChangesCarryRow : OpenClaim := { program := "ytglajbmopiolhaagreatdoor", sum := "eacaa320fa4ff6cd31c68af51c8c246591072a44a23dda02f28e98543699c8de", func := "loop.example/proofarchive/laws.FnChangesCarry", spec := "fnChangesCarry", inPlace := ["internal/bytealg.IndexByteString", "internal/bytealg.IndexString", "internal/bytealg.CountString", "slices.overlaps[loop.example/proofarchive/impl.Piece]", "slices.overlaps[loop.example/proofarchive/impl.Entry]"], unfollowed := true, recurses := true, named := ["internal/bytealg.MaxLen", "unicode/utf8.first", "unicode/utf8.acceptRanges"], apart := false, laid := [("unicode/utf8.acceptRanges", laid_unicode_utf8_acceptRanges), ("unicode/utf8.first", laid_unicode_utf8_first)] }
def FnChangesCarrySaid : Prop := fnChangesCarryRow.holds Tryz.pinned (OpenSpec.ofChange fnChangesCarrySpec)

/-- ITS FALSE NEIGHBOUR: 'it returns false'. Refute it at one input. -/
def fnChangesCarryWrong : ChangeSpec := { name := "fnChangesCarry", fn := fun _ => fun
  | [d] => { results := [.lit (.bool false)], args := [d] }
  | _ => none }
def FnChangesCarryWrongFalsely : Prop := fnChangesCarryRow.holds Tryz.pinned (OpenSpec.ofChange fnChangesCarryWrong)

/-- 'laws.FnExactChangesOf': WHATEVER THE INPUT: true; the input reads as it did. -/
def fnExactChangesOfSpec : ChangeSpec := { name := "fnExactChangesOf", fn := fun _ => fun
  | [d1, d2, d3] => { results := [.lit (.bool true)], args := [d1, d2, d3] }
  | _ => none }
def fnExactChangesOfRow : OpenClaim := { program := "ytglajbmopiolhaagreatdoor", sum := "eacaa320fa4ff6cd31c68af51c8c246591072a44a23dda02f28e98543699c8de", func := "loop.example/proofarchive/laws.FnExactChangesOf", spec := "fnExactChangesOf", inPlace := ["internal/bytealg.IndexByteString", "internal/bytealg.IndexString", "internal/bytealg.CountString"], unfollowed := true, recurses := true, named := ["internal/bytealg.MaxLen", "unicode/utf8.first", "unicode/utf8.acceptRanges"], apart := false, laid := [("unicode/utf8.acceptRanges", laid_unicode_utf8_acceptRanges), ("unicode/utf8.first", laid_unicode_utf8_first)] }
def FnExactChangesOfSaid : Prop := fnExactChangesOfRow.holds Tryz.pinned (OpenSpec.ofChange fnExactChangesOfSpec)

/-- ITS FALSE NEIGHBOUR: 'it returns false'. Refute it at one input. -/
def fnExactChangesOfWrong : ChangeSpec := { name := "fnExactChangesOf", fn := fun _ => fun
  | [d1, d2, d3] => { results := [.lit (.bool false)], args := [d1, d2, d3] }
  | _ => none }
def FnExactChangesOfWrongFalsely : Prop := fnExactChangesOfRow.holds Tryz.pinned (OpenSpec.ofChange fnExactChangesOfWrong)

/-- 'laws.FnExactCarryChanges': WHATEVER THE INPUT: true; the input reads as it did. -/
def fnExactCarryChangesSpec : ChangeSpec := { name := "fnExactCarryChanges", fn := fun _ => fun
  | [d1, d2, d3, d4] => { results := [.lit (.bool true)], args := [d1, d2, d3, d4] }
  | _ => none }
def fnExactCarryChangesRow : OpenClaim := { program := "ytglajbmopiolhaagreatdoor", sum := "eacaa320fa4ff6cd31c68af51c8c246591072a44a23dda02f28e98543699c8de", func := "loop.example/proofarchive/laws.FnExactCarryChanges", spec := "fnExactCarryChanges", inPlace := ["internal/bytealg.CountString", "internal/bytealg.IndexByteString", "internal/bytealg.IndexString", "slices.overlaps[loop.example/proofarchive/impl.Piece]", "slices.overlaps[loop.example/proofarchive/impl.Entry]"], unfollowed := true, recurses := true, named := ["unicode/utf8.first", "unicode/utf8.acceptRanges", "internal/bytealg.MaxLen"], apart := false, laid := [("unicode/utf8.acceptRanges", laid_unicode_utf8_acceptRanges), ("unicode/utf8.first", laid_unicode_utf8_first)] }
def FnExactCarryChangesSaid : Prop := fnExactCarryChangesRow.holds Tryz.pinned (OpenSpec.ofChange fnExactCarryChangesSpec)

/-- ITS FALSE NEIGHBOUR: 'it returns false'. Refute it at one input. -/
def fnExactCarryChangesWrong : ChangeSpec := { name := "fnExactCarryChanges", fn := fun _ => fun
  | [d1, d2, d3, d4] => { results := [.lit (.bool false)], args := [d1, d2, d3, d4] }
  | _ => none }
def FnExactCarryChangesWrongFalsely : Prop := fnExactCarryChangesRow.holds Tryz.pinned (OpenSpec.ofChange fnExactCarryChangesWrong)

/- THE SECOND FORM. 'bulk': how many values and letters a reading holds, each counted each time it is reached (what is shared counts as often as it is met; a slice's spare places count too). A statement '..UptoSaid' is the law's where the arguments, and the package variables that the reading takes, are together of bulk at most 1048576: NARROWER than '..Said'. Prove '..Said' where nothing that the law and all that it calls make is longer than what came in: it says more and counts as full. Else prove '..UptoSaid'. A law counts once. -/
mutual
def uptoBulk {H : Type} : DataW H → Nat
  | .lit (.string bytes) => bytes.length + 1
  | .lit _ => 1
  | .nil => 1
  | .ptr d => uptoBulk d + 1
  | .slice elems spare => uptoBulkAll elems + uptoBulkAll spare + 1
  | .agg parts => uptoBulkAll parts + 1
  | .iface _ d => uptoBulk d + 1
  | .map entries => uptoBulkEntries entries + 1
  | .held _ => 1
def uptoBulkAll {H : Type} : List (DataW H) → Nat
  | [] => 0
  | d :: r => uptoBulk d + uptoBulkAll r
def uptoBulkEntries {H : Type} : List (Lit × DataW H) → Nat
  | [] => 0
  | x :: r => uptoBulkEntry x + uptoBulkEntries r
def uptoBulkEntry {H : Type} : Lit × DataW H → Nat
  | (.string bytes, d) => bytes.length + uptoBulk d + 1
  | (_, d) => uptoBulk d + 1
 end
def uptoSmall : (H : Type) → List (DataW H) → Bool := fun _ ds => decide (uptoBulkAll ds ≤ 1048576)
def OpenSpec.upto (s : _root_.Go.ChangeSpec) : _root_.Go.OpenSpec := { _root_.Go.OpenSpec.ofChange s with cond := some uptoSmall }

/-- 'laws.FnSameFiles', WHERE WHAT IT READS IS OF BULK AT MOST 1048576: true; the input reads as it did. -/
def fnSameFilesUptoRow : OpenClaim := { program := "ytglajbmopiolhaagreatdoor", sum := "eacaa320fa4ff6cd31c68af51c8c246591072a44a23dda02f28e98543699c8de", func := "loop.example/proofarchive/laws.FnSameFiles", spec := "fnSameFiles", inPlace := ["internal/bytealg.IndexByteString", "internal/bytealg.IndexString", "internal/bytealg.CountString"], unfollowed := true, recurses := true, named := ["internal/bytealg.MaxLen", "unicode/utf8.first", "unicode/utf8.acceptRanges"], apart := false, laid := [("unicode/utf8.acceptRanges", laid_unicode_utf8_acceptRanges), ("unicode/utf8.first", laid_unicode_utf8_first)], narrowed := true }
def FnSameFilesUptoSaid : Prop := fnSameFilesUptoRow.holds Tryz.pinned (OpenSpec.upto fnSameFilesSpec)

/-- 'laws.FnChangesOf', WHERE WHAT IT READS IS OF BULK AT MOST 1048576: true; the input reads as it did. -/
def fnChangesOfUptoRow : OpenClaim := { program := "ytglajbmopiolhaagreatdoor", sum := "eacaa320fa4ff6cd31c68af51c8c246591072a44a23dda02f28e98543699c8de", func := "loop.example/proofarchive/laws.FnChangesOf", spec := "fnChangesOf", inPlace := ["internal/bytealg.IndexByteString", "internal/bytealg.IndexString", "internal/bytealg.CountString"], unfollowed := true, recurses := true, named := ["internal/bytealg.MaxLen", "unicode/utf8.first", "unicode/utf8.acceptRanges"], apart := false, laid := [("unicode/utf8.acceptRanges", laid_unicode_utf8_acceptRanges), ("unicode/utf8.first", laid_unicode_utf8_first)], narrowed := true }
def FnChangesOfUptoSaid : Prop := fnChangesOfUptoRow.holds Tryz.pinned (OpenSpec.upto fnChangesOfSpec)

/-- 'laws.FnCarryChanges', WHERE WHAT IT READS IS OF BULK AT MOST 1048576: true; the input reads as it did. -/
def fnCarryChangesUptoRow : OpenClaim := { program := "ytglajbmopiolhaagreatdoor", sum := "eacaa320fa4ff6cd31c68af51c8c246591072a44a23dda02f28e98543699c8de", func := "loop.example/proofarchive/laws.FnCarryChanges", spec := "fnCarryChanges", inPlace := ["internal/bytealg.CountString", "internal/bytealg.IndexByteString", "internal/bytealg.IndexString", "slices.overlaps[loop.example/proofarchive/impl.Piece]", "slices.overlaps[loop.example/proofarchive/impl.Entry]"], unfollowed := true, recurses := true, named := ["unicode/utf8.first", "unicode/utf8.acceptRanges", "internal/bytealg.MaxLen"], apart := false, laid := [("unicode/utf8.acceptRanges", laid_unicode_utf8_acceptRanges), ("unicode/utf8.first", laid_unicode_utf8_first)], narrowed := true }
def FnCarryChangesUptoSaid : Prop := fnCarryChangesUptoRow.holds Tryz.pinned (OpenSpec.upto fnCarryChangesSpec)

/-- 'laws.FnChangesCarry', WHERE WHAT IT READS IS OF BULK AT MOST 1048576: true; the input reads as it did. -/
def fnChangesCarryUptoRow : OpenClaim := { program := "ytglajbmopiolhaagreatdoor", sum := "eacaa320fa4ff6cd31c68af51c8c246591072a44a23dda02f28e98543699c8de", func := "loop.example/proofarchive/laws.FnChangesCarry", spec := "fnChangesCarry", inPlace := ["internal/bytealg.IndexByteString", "internal/bytealg.IndexString", "internal/bytealg.CountString", "slices.overlaps[loop.example/proofarchive/impl.Piece]", "slices.overlaps[loop.example/proofarchive/impl.Entry]"], unfollowed := true, recurses := true, named := ["internal/bytealg.MaxLen", "unicode/utf8.first", "unicode/utf8.acceptRanges"], apart := false, laid := [("unicode/utf8.acceptRanges", laid_unicode_utf8_acceptRanges), ("unicode/utf8.first", laid_unicode_utf8_first)], narrowed := true }
def FnChangesCarryUptoSaid : Prop := fnChangesCarryUptoRow.holds Tryz.pinned (OpenSpec.upto fnChangesCarrySpec)

/-- 'laws.FnExactChangesOf', WHERE WHAT IT READS IS OF BULK AT MOST 1048576: true; the input reads as it did. -/
def fnExactChangesOfUptoRow : OpenClaim := { program := "ytglajbmopiolhaagreatdoor", sum := "eacaa320fa4ff6cd31c68af51c8c246591072a44a23dda02f28e98543699c8de", func := "loop.example/proofarchive/laws.FnExactChangesOf", spec := "fnExactChangesOf", inPlace := ["internal/bytealg.IndexByteString", "internal/bytealg.IndexString", "internal/bytealg.CountString"], unfollowed := true, recurses := true, named := ["internal/bytealg.MaxLen", "unicode/utf8.first", "unicode/utf8.acceptRanges"], apart := false, laid := [("unicode/utf8.acceptRanges", laid_unicode_utf8_acceptRanges), ("unicode/utf8.first", laid_unicode_utf8_first)], narrowed := true }
def FnExactChangesOfUptoSaid : Prop := fnExactChangesOfUptoRow.holds Tryz.pinned (OpenSpec.upto fnExactChangesOfSpec)

/-- 'laws.FnExactCarryChanges', WHERE WHAT IT READS IS OF BULK AT MOST 1048576: true; the input reads as it did. -/
def fnExactCarryChangesUptoRow : OpenClaim := { program := "ytglajbmopiolhaagreatdoor", sum := "eacaa320fa4ff6cd31c68af51c8c246591072a44a23dda02f28e98543699c8de", func := "loop.example/proofarchive/laws.FnExactCarryChanges", spec := "fnExactCarryChanges", inPlace := ["internal/bytealg.CountString", "internal/bytealg.IndexByteString", "internal/bytealg.IndexString", "slices.overlaps[loop.example/proofarchive/impl.Piece]", "slices.overlaps[loop.example/proofarchive/impl.Entry]"], unfollowed := true, recurses := true, named := ["unicode/utf8.first", "unicode/utf8.acceptRanges", "internal/bytealg.MaxLen"], apart := false, laid := [("unicode/utf8.acceptRanges", laid_unicode_utf8_acceptRanges), ("unicode/utf8.first", laid_unicode_utf8_first)], narrowed := true }
def FnExactCarryChangesUptoSaid : Prop := fnExactCarryChangesUptoRow.holds Tryz.pinned (OpenSpec.upto fnExactCarryChangesSpec)

end Rows
end Go.Proofs.YtglajbmopiolhaaGreatDoor
