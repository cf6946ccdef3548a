/-
  NARROWER THAN 'FOR EVERY INPUT', by the rows' own cells (each row's printed sentence says how): FnPathProof: laid · FnProofContent: laid · FnProofsHold: laid · FnAbsenceProof: laid.
  DERIVED. THE GIVEN ROWS OF THIS SEAT. 4 by the template 'for every input the law returns true; each argument reads behind the call as it read before'; 0 by the template 'total and deterministic' (their statements: YtojebghaegimbaaGreatDoorTotals.lean).
  GIVEN WITH THE SEED: the statements are not yours to turn. If you find one false, say at which input.
  Laid BY PROGRAM, IN A SANDBOX (cutbox-rows.mjs): the forced cells as the released guide's own fill.sh prints them over the translation f4ab09ff39b5c88a… (all of the seat's roots in one cut). By AI agents, Wed Nov 11 2026. No macro, syntax, notation, axiom, sorry.
-/
import Derived.Test.YtojebghaegimbaaGreatDoorChecked
import GoSem.PinnedTables
import GoSem.Claim
import GoSem.ClaimJoined
import GoSem.ClaimMapViews
import Derived.JoinedTies
import Derived.KernelRfl
namespace Go.Proofs.YtojebghaegimbaaGreatDoor
/- THE CELL 'sum', in the pinned program and in every row, IS THE sha256 OF THE DUMP (.gsa) THAT YtojebghaegimbaaGreatDoorProg.lean LOADS. Nothing in Lean hashes anything: it is a label: what it is worth is what the hold of that sum in a sandbox is worth. -/
noncomputable def Tryz.pinned : Pinned := { name := "ytojebghaegimbaagreatdoor", sum := "f4ab09ff39b5c88a1944c4eea7b2644da33d0e3de27d7c4ec265b091010e8251", checked := Tryz.checked }
namespace Rows
def none {H : Type} : Left H := { results := [], args := [] }

/- WHAT THE LISTED PACKAGE-LEVEL VARIABLES READ AS WHEN THE CALL BEGINS. Each datum BY PROGRAM (the guide's laid-datum.mjs) off the statement by which the dump's own 'gosem.cut.vars' lays the variable. In a bare row this is a premise. The card (YtojebghaegimbaaGreatDoorCards.lean) ties it to the program's text. -/
def laid_unicode_utf8_acceptRanges {H : Type} : DataW H := .agg [.agg [.lit (.int .u8 128), .lit (.int .u8 191)], .agg [.lit (.int .u8 160), .lit (.int .u8 191)], .agg [.lit (.int .u8 128), .lit (.int .u8 159)], .agg [.lit (.int .u8 144), .lit (.int .u8 191)], .agg [.lit (.int .u8 128), .lit (.int .u8 143)], .agg [.lit (.int .u8 0), .lit (.int .u8 0)], .agg [.lit (.int .u8 0), .lit (.int .u8 0)], .agg [.lit (.int .u8 0), .lit (.int .u8 0)], .agg [.lit (.int .u8 0), .lit (.int .u8 0)], .agg [.lit (.int .u8 0), .lit (.int .u8 0)], .agg [.lit (.int .u8 0), .lit (.int .u8 0)], .agg [.lit (.int .u8 0), .lit (.int .u8 0)], .agg [.lit (.int .u8 0), .lit (.int .u8 0)], .agg [.lit (.int .u8 0), .lit (.int .u8 0)], .agg [.lit (.int .u8 0), .lit (.int .u8 0)], .agg [.lit (.int .u8 0), .lit (.int .u8 0)]]
/-- One of Go's own tables, pinned by name: the form's constant. -/
def laid_unicode_utf8_first : DataW Unit := Go.Pinned.utf8First

/-- 'laws.FnPathProof': WHATEVER THE INPUT: true; the input reads as it did. -/
def fnPathProofSpec : ChangeSpec := { name := "fnPathProof", fn := fun _ => fun
  | [d] => { results := [.lit (.bool true)], args := [d] }
  | _ => none }
def fnPathProofRow : OpenClaim := { program := "ytojebghaegimbaagreatdoor", sum := "f4ab09ff39b5c88a1944c4eea7b2644da33d0e3de27d7c4ec265b091010e8251", func := "loop.example/proofarchive/laws.FnPathProof", spec := "fnPathProof", inPlace := ["internal/bytealg.CountString", "internal/bytealg.IndexByteString", "internal/bytealg.IndexString"], unfollowed := true, recurses := true, named := ["unicode/utf8.first", "unicode/utf8.acceptRanges", "internal/bytealg.MaxLen"], apart := false, laid := [("unicode/utf8.acceptRanges", laid_unicode_utf8_acceptRanges), ("unicode/utf8.first", laid_unicode_utf8_first)] }
def FnPathProofSaid : Prop := fnPathProofRow.holds Tryz.pinned (OpenSpec.ofChange fnPathProofSpec)

/-- ITS FALSE NEIGHBOUR: 'it returns false'. Refute it at one input. -/
def fnPathProofWrong : ChangeSpec := { name := "fnPathProof", fn := fun _ => fun
  | [d] => { results := [.lit (.bool false)], args := [d] }
  | _ => none }
def FnPathProofWrongFalsely : Prop := fnPathProofRow.holds Tryz.pinned (OpenSpec.ofChange fnPathProofWrong)

/-- 'laws.FnProofContent': WHATEVER THE INPUT: true; the input reads as it did. -/
def fnProofContentSpec : ChangeSpec := { name := "fnProofContent", fn := fun _ => fun
  | [d] => { results := [.lit (.bool true)], args := [d] }
  | _ => none }
def fnProofContentRow : OpenClaim := { program := "ytojebghaegimbaagreatdoor", sum := "f4ab09ff39b5c88a1944c4eea7b2644da33d0e3de27d7c4ec265b091010e8251", func := "loop.example/proofarchive/laws.FnProofContent", spec := "fnProofContent", inPlace := ["internal/bytealg.CountString", "internal/bytealg.IndexByteString", "internal/bytealg.IndexString"], unfollowed := true, recurses := true, named := ["unicode/utf8.first", "unicode/utf8.acceptRanges", "internal/bytealg.MaxLen"], apart := false, laid := [("unicode/utf8.acceptRanges", laid_unicode_utf8_acceptRanges), ("unicode/utf8.first", laid_unicode_utf8_first)] }
def FnProofContentSaid : Prop := fnProofContentRow.holds Tryz.pinned (OpenSpec.ofChange fnProofContentSpec)

/-- ITS FALSE NEIGHBOUR: 'it returns false'. Refute it at one input. -/
def fnProofContentWrong : ChangeSpec := { name := "fnProofContent", fn := fun _ => fun
  | [d] => { results := [.lit (.bool false)], args := [d] }
  | _ => none }
def FnProofContentWrongFalsely : Prop := fnProofContentRow.holds Tryz.pinned (OpenSpec.ofChange fnProofContentWrong)

/-- 'laws.FnProofsHold': WHATEVER THE INPUT: true; the input reads as it did. -/
def fnProofsHoldSpec : ChangeSpec := { name := "fnProofsHold", fn := fun _ => fun
  | [d] => { results := [.lit (.bool true)], args := [d] }
  | _ => none }
def fnProofsHoldRow : OpenClaim := { program := "ytojebghaegimbaagreatdoor", sum := "f4ab09ff39b5c88a1944c4eea7b2644da33d0e3de27d7c4ec265b091010e8251", func := "loop.example/proofarchive/laws.FnProofsHold", spec := "fnProofsHold", inPlace := ["internal/bytealg.CountString", "internal/bytealg.IndexByteString", "internal/bytealg.IndexString"], unfollowed := true, recurses := true, named := ["unicode/utf8.first", "unicode/utf8.acceptRanges", "internal/bytealg.MaxLen"], apart := false, laid := [("unicode/utf8.acceptRanges", laid_unicode_utf8_acceptRanges), ("unicode/utf8.first", laid_unicode_utf8_first)] }
def FnProofsHoldSaid : Prop := fnProofsHoldRow.holds Tryz.pinned (OpenSpec.ofChange fnProofsHoldSpec)

/-- ITS FALSE NEIGHBOUR: 'it returns false'. Refute it at one input. -/
def fnProofsHoldWrong : ChangeSpec := { name := "fnProofsHold", fn := fun _ => fun
  | [d] => { results := [.lit (.bool false)], args := [d] }
  | _ => none }
def FnProofsHoldWrongFalsely : Prop := fnProofsHoldRow.holds Tryz.pinned (OpenSpec.ofChange fnProofsHoldWrong)

/-- 'laws.FnAbsenceProof': WHATEVER THE INPUT: true; the input reads as it did. -/
def fnAbsenceProofSpec : ChangeSpec := { name := "fnAbsenceProof", fn := fun _ => fun
  | [d] => { results := [.lit (.bool true)], args := [d] }
  | _ => none }
def fnAbsenceProofRow : OpenClaim := { program := "ytojebghaegimbaagreatdoor", sum := "f4ab09ff39b5c88a1944c4eea7b2644da33d0e3de27d7c4ec265b091010e8251", func := "loop.example/proofarchive/laws.FnAbsenceProof", spec := "fnAbsenceProof", inPlace := ["internal/bytealg.CountString", "internal/bytealg.IndexByteString", "internal/bytealg.IndexString"], unfollowed := true, recurses := true, named := ["unicode/utf8.first", "unicode/utf8.acceptRanges", "internal/bytealg.MaxLen"], apart := false, laid := [("unicode/utf8.acceptRanges", laid_unicode_utf8_acceptRanges), ("unicode/utf8.first", laid_unicode_utf8_first)] }
def FnAbsenceProofSaid : Prop := fnAbsenceProofRow.holds Tryz.pinned (OpenSpec.ofChange fnAbsenceProofSpec)

/-- ITS FALSE NEIGHBOUR: 'it returns false'. Refute it at one input. -/
def fnAbsenceProofWrong : ChangeSpec := { name := "fnAbsenceProof", fn := fun _ => fun
  | [d] => { results := [.lit (.bool false)], args := [d] }
  | _ => none }
def FnAbsenceProofWrongFalsely : Prop := fnAbsenceProofRow.holds Tryz.pinned (OpenSpec.ofChange fnAbsenceProofWrong)

/- THE SECOND FORM. 'bulk': how many values and letters a reading holds, each counted each time it is reached (what is shared counts as often as it is met; a slice's spare places count too). A statement '..UptoSaid' is the law's where the arguments, and the package variables that the reading takes, are together of bulk at most 1048576: NARROWER than '..Said'. Prove '..Said' where nothing that the law and all that it calls make is longer than what came in: it says more and counts as full. Else prove '..UptoSaid'. A law counts once. -/
mutual
def uptoBulk {H : Type} : DataW H → Nat
  | .lit (.string bytes) => bytes.length + 1
  | .lit _ => 1
  | .nil => 1
  | .ptr d => uptoBulk d + 1
  | .slice elems spare => uptoBulkAll elems + uptoBulkAll spare + 1
  | .agg parts => uptoBulkAll parts + 1
  | .iface _ d => uptoBulk d + 1
  | .map entries => uptoBulkEntries entries + 1
  | .held _ => 1
def uptoBulkAll {H : Type} : List (DataW H) → Nat
  | [] => 0
  | d :: r => uptoBulk d + uptoBulkAll r
def uptoBulkEntries {H : Type} : List (Lit × DataW H) → Nat
  | [] => 0
  | x :: r => uptoBulkEntry x + uptoBulkEntries r
def uptoBulkEntry {H : Type} : Lit × DataW H → Nat
  | (.string bytes, d) => bytes.length + uptoBulk d + 1
  | (_, d) => uptoBulk d + 1
 end
def uptoSmall : (H : Type) → List (DataW H) → Bool := fun _ ds => decide (uptoBulkAll ds ≤ 1048576)
def OpenSpec.upto (s : _root_.Go.ChangeSpec) : _root_.Go.OpenSpec := { _root_.Go.OpenSpec.ofChange s with cond := some uptoSmall }

/-- 'laws.FnPathProof', WHERE WHAT IT READS IS OF BULK AT MOST 1048576: true; the input reads as it did. -/
def fnPathProofUptoRow : OpenClaim := { program := "ytojebghaegimbaagreatdoor", sum := "f4ab09ff39b5c88a1944c4eea7b2644da33d0e3de27d7c4ec265b091010e8251", func := "loop.example/proofarchive/laws.FnPathProof", spec := "fnPathProof", inPlace := ["internal/bytealg.CountString", "internal/bytealg.IndexByteString", "internal/bytealg.IndexString"], unfollowed := true, recurses := true, named := ["unicode/utf8.first", "unicode/utf8.acceptRanges", "internal/bytealg.MaxLen"], apart := false, laid := [("unicode/utf8.acceptRanges", laid_unicode_utf8_acceptRanges), ("unicode/utf8.first", laid_unicode_utf8_first)], narrowed := true }
def FnPathProofUptoSaid : Prop := fnPathProofUptoRow.holds Tryz.pinned (OpenSpec.upto fnPathProofSpec)

/-- 'laws.FnProofContent', WHERE WHAT IT READS IS OF BULK AT MOST 1048576: true; the input reads as it did. -/
def fnProofContentUptoRow : OpenClaim := { program := "ytojebghaegimbaagreatdoor", sum := "f4ab09ff39b5c88a1944c4eea7b2644da33d0e3de27d7c4ec265b091010e8251", func := "loop.example/proofarchive/laws.FnProofContent", spec := "fnProofContent", inPlace := ["internal/bytealg.CountString", "internal/bytealg.IndexByteString", "internal/bytealg.IndexString"], unfollowed := true, recurses := true, named := ["unicode/utf8.first", "unicode/utf8.acceptRanges", "internal/bytealg.MaxLen"], apart := false, laid := [("unicode/utf8.acceptRanges", laid_unicode_utf8_acceptRanges), ("unicode/utf8.first", laid_unicode_utf8_first)], narrowed := true }
def FnProofContentUptoSaid : Prop := fnProofContentUptoRow.holds Tryz.pinned (OpenSpec.upto fnProofContentSpec)

/-- 'laws.FnProofsHold', WHERE WHAT IT READS IS OF BULK AT MOST 1048576: true; the input reads as it did. -/
def fnProofsHoldUptoRow : OpenClaim := { program := "ytojebghaegimbaagreatdoor", sum := "f4ab09ff39b5c88a1944c4eea7b2644da33d0e3de27d7c4ec265b091010e8251", func := "loop.example/proofarchive/laws.FnProofsHold", spec := "fnProofsHold", inPlace := ["internal/bytealg.CountString", "internal/bytealg.IndexByteString", "internal/bytealg.IndexString"], unfollowed := true, recurses := true, named := ["unicode/utf8.first", "unicode/utf8.acceptRanges", "internal/bytealg.MaxLen"], apart := false, laid := [("unicode/utf8.acceptRanges", laid_unicode_utf8_acceptRanges), ("unicode/utf8.first", laid_unicode_utf8_first)], narrowed := true }
def FnProofsHoldUptoSaid : Prop := fnProofsHoldUptoRow.holds Tryz.pinned (OpenSpec.upto fnProofsHoldSpec)

/-- 'laws.FnAbsenceProof', WHERE WHAT IT READS IS OF BULK AT MOST 1048576: true; the input reads as it did. -/
def fnAbsenceProofUptoRow : OpenClaim := { program := "ytojebghaegimbaagreatdoor", sum := "f4ab09ff39b5c88a1944c4eea7b2644da33d0e3de27d7c4ec265b091010e8251", func := "loop.example/proofarchive/laws.FnAbsenceProof", spec := "fnAbsenceProof", inPlace := ["internal/bytealg.CountString", "internal/bytealg.IndexByteString", "internal/bytealg.IndexString"], unfollowed := true, recurses := true, named := ["unicode/utf8.first", "unicode/utf8.acceptRanges", "internal/bytealg.MaxLen"], apart := false, laid := [("unicode/utf8.acceptRanges", laid_unicode_utf8_acceptRanges), ("unicode/utf8.first", laid_unicode_utf8_first)], narrowed := true }
def FnAbsenceProofUptoSaid : Prop := fnAbsenceProofUptoRow.holds Tryz.pinned (OpenSpec.upto fnAbsenceProofSpec)

end Rows
end Go.Proofs.YtojebghaegimbaaGreatDoor
