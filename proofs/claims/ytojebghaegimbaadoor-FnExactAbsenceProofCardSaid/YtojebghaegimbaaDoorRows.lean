/-
  NARROWER THAN 'FOR EVERY INPUT', by the rows' own cells (each row's printed sentence says how): FnProofRight: laid · FnAbsenceRight: laid · FnExactPathProof: laid · FnExactProofRight: laid · FnExactProofContent: laid · FnExactAbsenceProof: laid · FnExactAbsenceRight: laid.
  DERIVED. THE GIVEN ROWS OF THIS SEAT. 7 by the template 'for every input the law returns true; each argument reads behind the call as it read before'; 0 by the template 'total and deterministic' (their statements: YtojebghaegimbaaDoorTotals.lean).
  GIVEN WITH THE SEED: the statements are not yours to turn. If you find one false, say at which input.
  Laid BY PROGRAM, IN A SANDBOX (cutbox-rows.mjs): the forced cells as the released guide's own fill.sh prints them over the translation 5ec780519ab7e29d… (all of the seat's roots in one cut). By AI agents, Wed Nov 11 2026. No macro, syntax, notation, axiom, sorry.
-/
import Derived.Test.YtojebghaegimbaaDoorChecked
import GoSem.PinnedTables
import GoSem.Claim
import GoSem.ClaimJoined
import GoSem.ClaimMapViews
import Derived.JoinedTies
import Derived.KernelRfl
namespace Go.Proofs.YtojebghaegimbaaDoor
/- THE CELL 'sum', in the pinned program and in every row, IS THE sha256 OF THE DUMP (.gsa) THAT YtojebghaegimbaaDoorProg.lean LOADS. Nothing in Lean hashes anything: it is a label: what it is worth is what the hold of that sum in a sandbox is worth. -/
noncomputable def Tryd.pinned : Pinned := { name := "ytojebghaegimbaadoor", sum := "5ec780519ab7e29d1750bae9c424d4369cde3fc1d7f6d4cab8a5ba7e3a651f2f", checked := Tryd.checked }
namespace Rows
def none {H : Type} : Left H := { results := [], args := [] }

/- WHAT THE LISTED PACKAGE-LEVEL VARIABLES READ AS WHEN THE CALL BEGINS. Each datum BY PROGRAM (the guide's laid-datum.mjs) off the statement by which the dump's own 'gosem.cut.vars' lays the variable. In a bare row this is a premise. The card (YtojebghaegimbaaDoorCards.lean) ties it to the program's text. -/
def laid_unicode_utf8_acceptRanges {H : Type} : DataW H := .agg [.agg [.lit (.int .u8 128), .lit (.int .u8 191)], .agg [.lit (.int .u8 160), .lit (.int .u8 191)], .agg [.lit (.int .u8 128), .lit (.int .u8 159)], .agg [.lit (.int .u8 144), .lit (.int .u8 191)], .agg [.lit (.int .u8 128), .lit (.int .u8 143)], .agg [.lit (.int .u8 0), .lit (.int .u8 0)], .agg [.lit (.int .u8 0), .lit (.int .u8 0)], .agg [.lit (.int .u8 0), .lit (.int .u8 0)], .agg [.lit (.int .u8 0), .lit (.int .u8 0)], .agg [.lit (.int .u8 0), .lit (.int .u8 0)], .agg [.lit (.int .u8 0), .lit (.int .u8 0)], .agg [.lit (.int .u8 0), .lit (.int .u8 0)], .agg [.lit (.int .u8 0), .lit (.int .u8 0)], .agg [.lit (.int .u8 0), .lit (.int .u8 0)], .agg [.lit (.int .u8 0), .lit (.int .u8 0)], .agg [.lit (.int .u8 0), .lit (.int .u8 0)]]
/-- One of Go's own tables, pinned by name: the form's constant. -/
def laid_unicode_utf8_first : DataW Unit := Go.Pinned.utf8First

/-- 'laws.FnProofRight': WHATEVER THE INPUT: true; the input reads as it did. -/
def fnProofRightSpec : ChangeSpec := { name := "fnProofRight", fn := fun _ => fun
  | [d] => { results := [.lit (.bool true)], args := [d] }
  | _ => none }
def fnProofRightRow : OpenClaim := { program := "ytojebghaegimbaadoor", sum := "5ec780519ab7e29d1750bae9c424d4369cde3fc1d7f6d4cab8a5ba7e3a651f2f", func := "loop.example/proofarchive/laws.FnProofRight", spec := "fnProofRight", inPlace := ["internal/bytealg.CountString", "internal/bytealg.IndexByteString", "internal/bytealg.IndexString"], unfollowed := true, recurses := true, named := ["unicode/utf8.first", "unicode/utf8.acceptRanges", "internal/bytealg.MaxLen"], apart := false, laid := [("unicode/utf8.acceptRanges", laid_unicode_utf8_acceptRanges), ("unicode/utf8.first", laid_unicode_utf8_first)] }
def FnProofRightSaid : Prop := fnProofRightRow.holds Tryd.pinned (OpenSpec.ofChange fnProofRightSpec)

/-- ITS FALSE NEIGHBOUR: 'it returns false'. Refute it at one input. -/
def fnProofRightWrong : ChangeSpec := { name := "fnProofRight", fn := fun _ => fun
  | [d] => { results := [.lit (.bool false)], args := [d] }
  | _ => none }
def FnProofRightWrongFalsely : Prop := fnProofRightRow.holds Tryd.pinned (OpenSpec.ofChange fnProofRightWrong)

/-- 'laws.FnAbsenceRight': WHATEVER THE INPUT: true; the input reads as it did. -/
def fnAbsenceRightSpec : ChangeSpec := { name := "fnAbsenceRight", fn := fun _ => fun
  | [d] => { results := [.lit (.bool true)], args := [d] }
  | _ => none }
def fnAbsenceRightRow : OpenClaim := { program := "ytojebghaegimbaadoor", sum := "5ec780519ab7e29d1750bae9c424d4369cde3fc1d7f6d4cab8a5ba7e3a651f2f", func := "loop.example/proofarchive/laws.FnAbsenceRight", spec := "fnAbsenceRight", inPlace := ["internal/bytealg.CountString", "internal/bytealg.IndexByteString", "internal/bytealg.IndexString"], unfollowed := true, recurses := true, named := ["unicode/utf8.first", "unicode/utf8.acceptRanges", "internal/bytealg.MaxLen"], apart := false, laid := [("unicode/utf8.acceptRanges", laid_unicode_utf8_acceptRanges), ("unicode/utf8.first", laid_unicode_utf8_first)] }
def FnAbsenceRightSaid : Prop := fnAbsenceRightRow.holds Tryd.pinned (OpenSpec.ofChange fnAbsenceRightSpec)

/-- ITS FALSE NEIGHBOUR: 'it returns false'. Refute it at one input. -/
def fnAbsenceRightWrong : ChangeSpec := { name := "fnAbsenceRight", fn := fun _ => fun
  | [d] => { results := [.lit (.bool false)], args := [d] }
  | _ => none }
def FnAbsenceRightWrongFalsely : Prop := fnAbsenceRightRow.holds Tryd.pinned (OpenSpec.ofChange fnAbsenceRightWrong)

/-- 'laws.FnExactPathProof': WHATEVER THE INPUT: true; the input reads as it did. -/
def fnExactPathProofSpec : ChangeSpec := { name := "fnExactPathProof", fn := fun _ => fun
  | [d1, d2, d3] => { results := [.lit (.bool true)], args := [d1, d2, d3] }
  | _ => none }
def fnExactPathProofRow : OpenClaim := { program := "ytojebghaegimbaadoor", sum := "5ec780519ab7e29d1750bae9c424d4369cde3fc1d7f6d4cab8a5ba7e3a651f2f", func := "loop.example/proofarchive/laws.FnExactPathProof", spec := "fnExactPathProof", inPlace := ["internal/bytealg.CountString", "internal/bytealg.IndexByteString", "internal/bytealg.IndexString"], unfollowed := true, recurses := true, named := ["unicode/utf8.first", "unicode/utf8.acceptRanges", "internal/bytealg.MaxLen"], apart := false, laid := [("unicode/utf8.acceptRanges", laid_unicode_utf8_acceptRanges), ("unicode/utf8.first", laid_unicode_utf8_first)] }
def FnExactPathProofSaid : Prop := fnExactPathProofRow.holds Tryd.pinned (OpenSpec.ofChange fnExactPathProofSpec)

/-- ITS FALSE NEIGHBOUR: 'it returns false'. Refute it at one input. -/
def fnExactPathProofWrong : ChangeSpec := { name := "fnExactPathProof", fn := fun _ => fun
  | [d1, d2, d3] => { results := [.lit (.bool false)], args := [d1, d2, d3] }
  | _ => none }
def FnExactPathProofWrongFalsely : Prop := fnExactPathProofRow.holds Tryd.pinned (OpenSpec.ofChange fnExactPathProofWrong)

/-- 'laws.FnExactProofRight': WHATEVER THE INPUT: true; the input reads as it did. -/
def fnExactProofRightSpec : ChangeSpec := { name := "fnExactProofRight", fn := fun _ => fun
  | [d1, d2, d3] => { results := [.lit (.bool true)], args := [d1, d2, d3] }
  | _ => none }
def fnExactProofRightRow : OpenClaim := { program := "ytojebghaegimbaadoor", sum := "5ec780519ab7e29d1750bae9c424d4369cde3fc1d7f6d4cab8a5ba7e3a651f2f", func := "loop.example/proofarchive/laws.FnExactProofRight", spec := "fnExactProofRight", inPlace := ["internal/bytealg.CountString", "internal/bytealg.IndexByteString", "internal/bytealg.IndexString"], unfollowed := true, recurses := true, named := ["unicode/utf8.first", "unicode/utf8.acceptRanges", "internal/bytealg.MaxLen"], apart := false, laid := [("unicode/utf8.acceptRanges", laid_unicode_utf8_acceptRanges), ("unicode/utf8.first", laid_unicode_utf8_first)] }
def FnExactProofRightSaid : Prop := fnExactProofRightRow.holds Tryd.pinned (OpenSpec.ofChange fnExactProofRightSpec)

/-- ITS FALSE NEIGHBOUR: 'it returns false'. Refute it at one input. -/
def fnExactProofRightWrong : ChangeSpec := { name := "fnExactProofRight", fn := fun _ => fun
  | [d1, d2, d3] => { results := [.lit (.bool false)], args := [d1, d2, d3] }
  | _ => none }
def FnExactProofRightWrongFalsely : Prop := fnExactProofRightRow.holds Tryd.pinned (OpenSpec.ofChange fnExactProofRightWrong)

/-- 'laws.FnExactProofContent': WHATEVER THE INPUT: true; the input reads as it did. -/
def fnExactProofContentSpec : ChangeSpec := { name := "fnExactProofContent", fn := fun _ => fun
  | [d1, d2, d3] => { results := [.lit (.bool true)], args := [d1, d2, d3] }
  | _ => none }
def fnExactProofContentRow : OpenClaim := { program := "ytojebghaegimbaadoor", sum := "5ec780519ab7e29d1750bae9c424d4369cde3fc1d7f6d4cab8a5ba7e3a651f2f", func := "loop.example/proofarchive/laws.FnExactProofContent", spec := "fnExactProofContent", inPlace := ["internal/bytealg.CountString", "internal/bytealg.IndexByteString", "internal/bytealg.IndexString"], unfollowed := true, recurses := true, named := ["unicode/utf8.first", "unicode/utf8.acceptRanges", "internal/bytealg.MaxLen"], apart := false, laid := [("unicode/utf8.acceptRanges", laid_unicode_utf8_acceptRanges), ("unicode/utf8.first", laid_unicode_utf8_first)] }
def FnExactProofContentSaid : Prop := fnExactProofContentRow.holds Tryd.pinned (OpenSpec.ofChange fnExactProofContentSpec)

/-- ITS FALSE NEIGHBOUR: 'it returns false'. Refute it at one input. -/
def fnExactProofContentWrong : ChangeSpec := { name := "fnExactProofContent", fn := fun _ => fun
  | [d1, d2, d3] => { results := [.lit (.bool false)], args := [d1, d2, d3] }
  | _ => none }
def FnExactProofContentWrongFalsely : Prop := fnExactProofContentRow.holds Tryd.pinned (OpenSpec.ofChange fnExactProofContentWrong)

/-- 'laws.FnExactAbsenceProof': WHATEVER THE INPUT: true; the input reads as it did. -/
def fnExactAbsenceProofSpec : ChangeSpec := { name := "fnExactAbsenceProof", fn := fun _ => fun
  | [d1, d2, d3] => { results := [.lit (.bool true)], args := [d1, d2, d3] }
  | _ => none }
def fnExactAbsenceProofRow : OpenClaim := { program := "ytojebghaegimbaadoor", sum := "5ec780519ab7e29d1750bae9c424d4369cde3fc1d7f6d4cab8a5ba7e3a651f2f", func := "loop.example/proofarchive/laws.FnExactAbsenceProof", spec := "fnExactAbsenceProof", inPlace := ["internal/bytealg.CountString", "internal/bytealg.IndexByteString", "internal/bytealg.IndexString"], unfollowed := true, recurses := true, named := ["unicode/utf8.first", "unicode/utf8.acceptRanges", "internal/bytealg.MaxLen"], apart := false, laid := [("unicode/utf8.acceptRanges", laid_unicode_utf8_acceptRanges), ("unicode/utf8.first", laid_unicode_utf8_first)] }
def FnExactAbsenceProofSaid : Prop := fnExactAbsenceProofRow.holds Tryd.pinned (OpenSpec.ofChange fnExactAbsenceProofSpec)

/-- ITS FALSE NEIGHBOUR: 'it returns false'. Refute it at one input. -/
def fnExactAbsenceProofWrong : ChangeSpec := { name := "fnExactAbsenceProof", fn := fun _ => fun
  | [d1, d2, d3] => { results := [.lit (.bool false)], args := [d1, d2, d3] }
  | _ => none }
def FnExactAbsenceProofWrongFalsely : Prop := fnExactAbsenceProofRow.holds Tryd.pinned (OpenSpec.ofChange fnExactAbsenceProofWrong)

/-- 'laws.FnExactAbsenceRight': WHATEVER THE INPUT: true; the input reads as it did. -/
def fnExactAbsenceRightSpec : ChangeSpec := { name := "fnExactAbsenceRight", fn := fun _ => fun
  | [d1, d2, d3] => { results := [.lit (.bool true)], args := [d1, d2, d3] }
  | _ => none }
def fnExactAbsenceRightRow : OpenClaim := { program := "ytojebghaegimbaadoor", sum := "5ec780519ab7e29d1750bae9c424d4369cde3fc1d7f6d4cab8a5ba7e3a651f2f", func := "loop.example/proofarchive/laws.FnExactAbsenceRight", spec := "fnExactAbsenceRight", inPlace := ["internal/bytealg.CountString", "internal/bytealg.IndexByteString", "internal/bytealg.IndexString"], unfollowed := true, recurses := true, named := ["unicode/utf8.first", "unicode/utf8.acceptRanges", "internal/bytealg.MaxLen"], apart := false, laid := [("unicode/utf8.acceptRanges", laid_unicode_utf8_acceptRanges), ("unicode/utf8.first", laid_unicode_utf8_first)] }
def FnExactAbsenceRightSaid : Prop := fnExactAbsenceRightRow.holds Tryd.pinned (OpenSpec.ofChange fnExactAbsenceRightSpec)

/-- ITS FALSE NEIGHBOUR: 'it returns false'. Refute it at one input. -/
def fnExactAbsenceRightWrong : ChangeSpec := { name := "fnExactAbsenceRight", fn := fun _ => fun
  | [d1, d2, d3] => { results := [.lit (.bool false)], args := [d1, d2, d3] }
  | _ => none }
def FnExactAbsenceRightWrongFalsely : Prop := fnExactAbsenceRightRow.holds Tryd.pinned (OpenSpec.ofChange fnExactAbsenceRightWrong)

/- THE SECOND FORM. 'bulk': how many values and letters a reading holds, each counted each time it is reached (what is shared counts as often as it is met; a slice's spare places count too). A statement '..UptoSaid' is the law's where the arguments, and the package variables that the reading takes, are together of bulk at most 1048576: NARROWER than '..Said'. Prove '..Said' where nothing that the law and all that it calls make is longer than what came in: it says more and counts as full. Else prove '..UptoSaid'. A law counts once. -/
mutual
def uptoBulk {H : Type} : DataW H → Nat
  | .lit (.string bytes) => bytes.length + 1
  | .lit _ => 1
  | .nil => 1
  | .ptr d => uptoBulk d + 1
  | .slice elems spare => uptoBulkAll elems + uptoBulkAll spare + 1
  | .agg parts => uptoBulkAll parts + 1
  | .iface _ d => uptoBulk d + 1
  | .map entries => uptoBulkEntries entries + 1
  | .held _ => 1
def uptoBulkAll {H : Type} : List (DataW H) → Nat
  | [] => 0
  | d :: r => uptoBulk d + uptoBulkAll r
def uptoBulkEntries {H : Type} : List (Lit × DataW H) → Nat
  | [] => 0
  | x :: r => uptoBulkEntry x + uptoBulkEntries r
def uptoBulkEntry {H : Type} : Lit × DataW H → Nat
  | (.string bytes, d) => bytes.length + uptoBulk d + 1
  | (_, d) => uptoBulk d + 1
 end
def uptoSmall : (H : Type) → List (DataW H) → Bool := fun _ ds => decide (uptoBulkAll ds ≤ 1048576)
def OpenSpec.upto (s : _root_.Go.ChangeSpec) : _root_.Go.OpenSpec := { _root_.Go.OpenSpec.ofChange s with cond := some uptoSmall }

/-- 'laws.FnProofRight', WHERE WHAT IT READS IS OF BULK AT MOST 1048576: true; the input reads as it did. -/
def fnProofRightUptoRow : OpenClaim := { program := "ytojebghaegimbaadoor", sum := "5ec780519ab7e29d1750bae9c424d4369cde3fc1d7f6d4cab8a5ba7e3a651f2f", func := "loop.example/proofarchive/laws.FnProofRight", spec := "fnProofRight", inPlace := ["internal/bytealg.CountString", "internal/bytealg.IndexByteString", "internal/bytealg.IndexString"], unfollowed := true, recurses := true, named := ["unicode/utf8.first", "unicode/utf8.acceptRanges", "internal/bytealg.MaxLen"], apart := false, laid := [("unicode/utf8.acceptRanges", laid_unicode_utf8_acceptRanges), ("unicode/utf8.first", laid_unicode_utf8_first)], narrowed := true }
def FnProofRightUptoSaid : Prop := fnProofRightUptoRow.holds Tryd.pinned (OpenSpec.upto fnProofRightSpec)

/-- 'laws.FnAbsenceRight', WHERE WHAT IT READS IS OF BULK AT MOST 1048576: true; the input reads as it did. -/
def fnAbsenceRightUptoRow : OpenClaim := { program := "ytojebghaegimbaadoor", sum := "5ec780519ab7e29d1750bae9c424d4369cde3fc1d7f6d4cab8a5ba7e3a651f2f", func := "loop.example/proofarchive/laws.FnAbsenceRight", spec := "fnAbsenceRight", inPlace := ["internal/bytealg.CountString", "internal/bytealg.IndexByteString", "internal/bytealg.IndexString"], unfollowed := true, recurses := true, named := ["unicode/utf8.first", "unicode/utf8.acceptRanges", "internal/bytealg.MaxLen"], apart := false, laid := [("unicode/utf8.acceptRanges", laid_unicode_utf8_acceptRanges), ("unicode/utf8.first", laid_unicode_utf8_first)], narrowed := true }
def FnAbsenceRightUptoSaid : Prop := fnAbsenceRightUptoRow.holds Tryd.pinned (OpenSpec.upto fnAbsenceRightSpec)

/-- 'laws.FnExactPathProof', WHERE WHAT IT READS IS OF BULK AT MOST 1048576: true; the input reads as it did. -/
def fnExactPathProofUptoRow : OpenClaim := { program := "ytojebghaegimbaadoor", sum := "5ec780519ab7e29d1750bae9c424d4369cde3fc1d7f6d4cab8a5ba7e3a651f2f", func := "loop.example/proofarchive/laws.FnExactPathProof", spec := "fnExactPathProof", inPlace := ["internal/bytealg.CountString", "internal/bytealg.IndexByteString", "internal/bytealg.IndexString"], unfollowed := true, recurses := true, named := ["unicode/utf8.first", "unicode/utf8.acceptRanges", "internal/bytealg.MaxLen"], apart := false, laid := [("unicode/utf8.acceptRanges", laid_unicode_utf8_acceptRanges), ("unicode/utf8.first", laid_unicode_utf8_first)], narrowed := true }
def FnExactPathProofUptoSaid : Prop := fnExactPathProofUptoRow.holds Tryd.pinned (OpenSpec.upto fnExactPathProofSpec)

/-- 'laws.FnExactProofRight', WHERE WHAT IT READS IS OF BULK AT MOST 1048576: true; the input reads as it did. -/
def fnExactProofRightUptoRow : OpenClaim := { program := "ytojebghaegimbaadoor", sum := "5ec780519ab7e29d1750bae9c424d4369cde3fc1d7f6d4cab8a5ba7e3a651f2f", func := "loop.example/proofarchive/laws.FnExactProofRight", spec := "fnExactProofRight", inPlace := ["internal/bytealg.CountString", "internal/bytealg.IndexByteString", "internal/bytealg.IndexString"], unfollowed := true, recurses := true, named := ["unicode/utf8.first", "unicode/utf8.acceptRanges", "internal/bytealg.MaxLen"], apart := false, laid := [("unicode/utf8.acceptRanges", laid_unicode_utf8_acceptRanges), ("unicode/utf8.first", laid_unicode_utf8_first)], narrowed := true }
def FnExactProofRightUptoSaid : Prop := fnExactProofRightUptoRow.holds Tryd.pinned (OpenSpec.upto fnExactProofRightSpec)

/-- 'laws.FnExactProofContent', WHERE WHAT IT READS IS OF BULK AT MOST 1048576: true; the input reads as it did. -/
def fnExactProofContentUptoRow : OpenClaim := { program := "ytojebghaegimbaadoor", sum := "5ec780519ab7e29d1750bae9c424d4369cde3fc1d7f6d4cab8a5ba7e3a651f2f", func := "loop.example/proofarchive/laws.FnExactProofContent", spec := "fnExactProofContent", inPlace := ["internal/bytealg.CountString", "internal/bytealg.IndexByteString", "internal/bytealg.IndexString"], unfollowed := true, recurses := true, named := ["unicode/utf8.first", "unicode/utf8.acceptRanges", "internal/bytealg.MaxLen"], apart := false, laid := [("unicode/utf8.acceptRanges", laid_unicode_utf8_acceptRanges), ("unicode/utf8.first", laid_unicode_utf8_first)], narrowed := true }
def FnExactProofContentUptoSaid : Prop := fnExactProofContentUptoRow.holds Tryd.pinned (OpenSpec.upto fnExactProofContentSpec)

/-- 'laws.FnExactAbsenceProof', WHERE WHAT IT READS IS OF BULK AT MOST 1048576: true; the input reads as it did. -/
def fnExactAbsenceProofUptoRow : OpenClaim := { program := "ytojebghaegimbaadoor", sum := "5ec780519ab7e29d1750bae9c424d4369cde3fc1d7f6d4cab8a5ba7e3a651f2f", func := "loop.example/proofarchive/laws.FnExactAbsenceProof", spec := "fnExactAbsenceProof", inPlace := ["internal/bytealg.CountString", "internal/bytealg.IndexByteString", "internal/bytealg.IndexString"], unfollowed := true, recurses := true, named := ["unicode/utf8.first", "unicode/utf8.acceptRanges", "internal/bytealg.MaxLen"], apart := false, laid := [("unicode/utf8.acceptRanges", laid_unicode_utf8_acceptRanges), ("unicode/utf8.first", laid_unicode_utf8_first)], narrowed := true }
def FnExactAbsenceProofUptoSaid : Prop := fnExactAbsenceProofUptoRow.holds Tryd.pinned (OpenSpec.upto fnExactAbsenceProofSpec)

/-- 'laws.FnExactAbsenceRight', WHERE WHAT IT READS IS OF BULK AT MOST 1048576: true; the input reads as it did. -/
def fnExactAbsenceRightUptoRow : OpenClaim := { program := "ytojebghaegimbaadoor", sum := "5ec780519ab7e29d1750bae9c424d4369cde3fc1d7f6d4cab8a5ba7e3a651f2f", func := "loop.example/proofarchive/laws.FnExactAbsenceRight", spec := "fnExactAbsenceRight", inPlace := ["internal/bytealg.CountString", "internal/bytealg.IndexByteString", "internal/bytealg.IndexString"], unfollowed := true, recurses := true, named := ["unicode/utf8.first", "unicode/utf8.acceptRanges", "internal/bytealg.MaxLen"], apart := false, laid := [("unicode/utf8.acceptRanges", laid_unicode_utf8_acceptRanges), ("unicode/utf8.first", laid_unicode_utf8_first)], narrowed := true }
def FnExactAbsenceRightUptoSaid : Prop := fnExactAbsenceRightUptoRow.holds Tryd.pinned (OpenSpec.upto fnExactAbsenceRightSpec)

end Rows
end Go.Proofs.YtojebghaegimbaaDoor
