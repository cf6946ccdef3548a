/-
  No cell of these rows narrows 'for every input' (looked for: loops, veiled, ifaces, maps, wideKeys, modest, calm, conditions, laid).
  DERIVED. THE GIVEN ROWS OF THIS SEAT. 10 by the template 'for every input the law returns true; each argument reads behind the call as it read before'; 0 by the template 'total and deterministic' (their statements: YtjbkbbcogimaiaaTotals.lean).
  GIVEN WITH THE SEED: the statements are not yours to turn. If you find one false, say at which input.
  Laid BY PROGRAM, IN A SANDBOX (cutbox-rows.mjs): the forced cells as the released guide's own fill.sh prints them over the translation ef99cf1aab373d3c… (all of the seat's roots in one cut). By AI agents, Wed Nov 11 2026. No macro, syntax, notation, axiom, sorry.
-/
import Derived.Test.YtjbkbbcogimaiaaChecked
import GoSem.Claim
import GoSem.ClaimJoined
import GoSem.ClaimMapViews
import Derived.JoinedTies
import Derived.KernelRfl
namespace Go.Proofs.Ytjbkbbcogimaiaa
/- THE CELL 'sum', in the pinned program and in every row, IS THE sha256 OF THE DUMP (.gsa) THAT YtjbkbbcogimaiaaProg.lean LOADS. Nothing in Lean hashes anything: it is a label: what it is worth is what the hold of that sum in a sandbox is worth. -/
noncomputable def Try.pinned : Pinned := { name := "ytjbkbbcogimaiaa", sum := "ef99cf1aab373d3c04860ca817914ffe1c9759ac9d98bbc093a344a1f2ba4c86", checked := Try.checked }
namespace Rows
def none {H : Type} : Left H := { results := [], args := [] }

/-- 'laws.FnEntriesValid': WHATEVER THE INPUT: true; the input reads as it did. -/
def fnEntriesValidSpec : ChangeSpec := { name := "fnEntriesValid", fn := fun _ => fun
  | [d] => { results := [.lit (.bool true)], args := [d] }
  | _ => none }
def fnEntriesValidRow : OpenClaim := { program := "ytjbkbbcogimaiaa", sum := "ef99cf1aab373d3c04860ca817914ffe1c9759ac9d98bbc093a344a1f2ba4c86", func := "loop.example/proofarchive/laws.FnEntriesValid", spec := "fnEntriesValid", apart := false }
def FnEntriesValidSaid : Prop := fnEntriesValidRow.holds Try.pinned (OpenSpec.ofChange fnEntriesValidSpec)

/-- ITS FALSE NEIGHBOUR: 'it returns false'. Refute it at one input. -/
def fnEntriesValidWrong : ChangeSpec := { name := "fnEntriesValid", fn := fun _ => fun
  | [d] => { results := [.lit (.bool false)], args := [d] }
  | _ => none }
def FnEntriesValidWrongFalsely : Prop := fnEntriesValidRow.holds Try.pinned (OpenSpec.ofChange fnEntriesValidWrong)

/-- 'laws.FnFolderText': WHATEVER THE INPUT: true; the input reads as it did. -/
def fnFolderTextSpec : ChangeSpec := { name := "fnFolderText", fn := fun _ => fun
  | [d] => { results := [.lit (.bool true)], args := [d] }
  | _ => none }
def fnFolderTextRow : OpenClaim := { program := "ytjbkbbcogimaiaa", sum := "ef99cf1aab373d3c04860ca817914ffe1c9759ac9d98bbc093a344a1f2ba4c86", func := "loop.example/proofarchive/laws.FnFolderText", spec := "fnFolderText", inPlace := ["internal/bytealg.IndexByteString", "internal/bytealg.IndexString"], named := ["internal/bytealg.MaxLen"], apart := false }
def FnFolderTextSaid : Prop := fnFolderTextRow.holds Try.pinned (OpenSpec.ofChange fnFolderTextSpec)

/-- ITS FALSE NEIGHBOUR: 'it returns false'. Refute it at one input. -/
def fnFolderTextWrong : ChangeSpec := { name := "fnFolderText", fn := fun _ => fun
  | [d] => { results := [.lit (.bool false)], args := [d] }
  | _ => none }
def FnFolderTextWrongFalsely : Prop := fnFolderTextRow.holds Try.pinned (OpenSpec.ofChange fnFolderTextWrong)

/-- 'laws.FnReadFolder': WHATEVER THE INPUT: true; the input reads as it did. -/
def fnReadFolderSpec : ChangeSpec := { name := "fnReadFolder", fn := fun _ => fun
  | [d] => { results := [.lit (.bool true)], args := [d] }
  | _ => none }
def fnReadFolderRow : OpenClaim := { program := "ytjbkbbcogimaiaa", sum := "ef99cf1aab373d3c04860ca817914ffe1c9759ac9d98bbc093a344a1f2ba4c86", func := "loop.example/proofarchive/laws.FnReadFolder", spec := "fnReadFolder", inPlace := ["internal/bytealg.IndexByteString", "internal/bytealg.IndexString"], named := ["internal/bytealg.MaxLen"], apart := false }
def FnReadFolderSaid : Prop := fnReadFolderRow.holds Try.pinned (OpenSpec.ofChange fnReadFolderSpec)

/-- ITS FALSE NEIGHBOUR: 'it returns false'. Refute it at one input. -/
def fnReadFolderWrong : ChangeSpec := { name := "fnReadFolder", fn := fun _ => fun
  | [d] => { results := [.lit (.bool false)], args := [d] }
  | _ => none }
def FnReadFolderWrongFalsely : Prop := fnReadFolderRow.holds Try.pinned (OpenSpec.ofChange fnReadFolderWrong)

/-- 'laws.FnPutEntry': WHATEVER THE INPUT: true; the input reads as it did. -/
def fnPutEntrySpec : ChangeSpec := { name := "fnPutEntry", fn := fun _ => fun
  | [d] => { results := [.lit (.bool true)], args := [d] }
  | _ => none }
def fnPutEntryRow : OpenClaim := { program := "ytjbkbbcogimaiaa", sum := "ef99cf1aab373d3c04860ca817914ffe1c9759ac9d98bbc093a344a1f2ba4c86", func := "loop.example/proofarchive/laws.FnPutEntry", spec := "fnPutEntry", inPlace := ["slices.overlaps[loop.example/proofarchive/impl.Entry]"], unfollowed := true, recurses := true, apart := false }
def FnPutEntrySaid : Prop := fnPutEntryRow.holds Try.pinned (OpenSpec.ofChange fnPutEntrySpec)

/-- ITS FALSE NEIGHBOUR: 'it returns false'. Refute it at one input. -/
def fnPutEntryWrong : ChangeSpec := { name := "fnPutEntry", fn := fun _ => fun
  | [d] => { results := [.lit (.bool false)], args := [d] }
  | _ => none }
def FnPutEntryWrongFalsely : Prop := fnPutEntryRow.holds Try.pinned (OpenSpec.ofChange fnPutEntryWrong)

/-- 'laws.FnDropEntry': WHATEVER THE INPUT: true; the input reads as it did. -/
def fnDropEntrySpec : ChangeSpec := { name := "fnDropEntry", fn := fun _ => fun
  | [d] => { results := [.lit (.bool true)], args := [d] }
  | _ => none }
def fnDropEntryRow : OpenClaim := { program := "ytjbkbbcogimaiaa", sum := "ef99cf1aab373d3c04860ca817914ffe1c9759ac9d98bbc093a344a1f2ba4c86", func := "loop.example/proofarchive/laws.FnDropEntry", spec := "fnDropEntry", unfollowed := true, recurses := true, apart := false }
def FnDropEntrySaid : Prop := fnDropEntryRow.holds Try.pinned (OpenSpec.ofChange fnDropEntrySpec)

/-- ITS FALSE NEIGHBOUR: 'it returns false'. Refute it at one input. -/
def fnDropEntryWrong : ChangeSpec := { name := "fnDropEntry", fn := fun _ => fun
  | [d] => { results := [.lit (.bool false)], args := [d] }
  | _ => none }
def FnDropEntryWrongFalsely : Prop := fnDropEntryRow.holds Try.pinned (OpenSpec.ofChange fnDropEntryWrong)

/-- 'laws.FnExactEntriesValid': WHATEVER THE INPUT: true; the input reads as it did. -/
def fnExactEntriesValidSpec : ChangeSpec := { name := "fnExactEntriesValid", fn := fun _ => fun
  | [d] => { results := [.lit (.bool true)], args := [d] }
  | _ => none }
def fnExactEntriesValidRow : OpenClaim := { program := "ytjbkbbcogimaiaa", sum := "ef99cf1aab373d3c04860ca817914ffe1c9759ac9d98bbc093a344a1f2ba4c86", func := "loop.example/proofarchive/laws.FnExactEntriesValid", spec := "fnExactEntriesValid", apart := false }
def FnExactEntriesValidSaid : Prop := fnExactEntriesValidRow.holds Try.pinned (OpenSpec.ofChange fnExactEntriesValidSpec)

/-- ITS FALSE NEIGHBOUR: 'it returns false'. Refute it at one input. -/
def fnExactEntriesValidWrong : ChangeSpec := { name := "fnExactEntriesValid", fn := fun _ => fun
  | [d] => { results := [.lit (.bool false)], args := [d] }
  | _ => none }
def FnExactEntriesValidWrongFalsely : Prop := fnExactEntriesValidRow.holds Try.pinned (OpenSpec.ofChange fnExactEntriesValidWrong)

/-- 'laws.FnExactFolderText': WHATEVER THE INPUT: true; the input reads as it did. -/
def fnExactFolderTextSpec : ChangeSpec := { name := "fnExactFolderText", fn := fun _ => fun
  | [d] => { results := [.lit (.bool true)], args := [d] }
  | _ => none }
def fnExactFolderTextRow : OpenClaim := { program := "ytjbkbbcogimaiaa", sum := "ef99cf1aab373d3c04860ca817914ffe1c9759ac9d98bbc093a344a1f2ba4c86", func := "loop.example/proofarchive/laws.FnExactFolderText", spec := "fnExactFolderText", apart := false }
def FnExactFolderTextSaid : Prop := fnExactFolderTextRow.holds Try.pinned (OpenSpec.ofChange fnExactFolderTextSpec)

/-- ITS FALSE NEIGHBOUR: 'it returns false'. Refute it at one input. -/
def fnExactFolderTextWrong : ChangeSpec := { name := "fnExactFolderText", fn := fun _ => fun
  | [d] => { results := [.lit (.bool false)], args := [d] }
  | _ => none }
def FnExactFolderTextWrongFalsely : Prop := fnExactFolderTextRow.holds Try.pinned (OpenSpec.ofChange fnExactFolderTextWrong)

/-- 'laws.FnExactReadFolder': WHATEVER THE INPUT: true; the input reads as it did. -/
def fnExactReadFolderSpec : ChangeSpec := { name := "fnExactReadFolder", fn := fun _ => fun
  | [d] => { results := [.lit (.bool true)], args := [d] }
  | _ => none }
def fnExactReadFolderRow : OpenClaim := { program := "ytjbkbbcogimaiaa", sum := "ef99cf1aab373d3c04860ca817914ffe1c9759ac9d98bbc093a344a1f2ba4c86", func := "loop.example/proofarchive/laws.FnExactReadFolder", spec := "fnExactReadFolder", inPlace := ["internal/bytealg.IndexByteString", "internal/bytealg.IndexString"], named := ["internal/bytealg.MaxLen"], apart := false }
def FnExactReadFolderSaid : Prop := fnExactReadFolderRow.holds Try.pinned (OpenSpec.ofChange fnExactReadFolderSpec)

/-- ITS FALSE NEIGHBOUR: 'it returns false'. Refute it at one input. -/
def fnExactReadFolderWrong : ChangeSpec := { name := "fnExactReadFolder", fn := fun _ => fun
  | [d] => { results := [.lit (.bool false)], args := [d] }
  | _ => none }
def FnExactReadFolderWrongFalsely : Prop := fnExactReadFolderRow.holds Try.pinned (OpenSpec.ofChange fnExactReadFolderWrong)

/-- 'laws.FnExactPutEntry': WHATEVER THE INPUT: true; the input reads as it did. -/
def fnExactPutEntrySpec : ChangeSpec := { name := "fnExactPutEntry", fn := fun _ => fun
  | [d1, d2] => { results := [.lit (.bool true)], args := [d1, d2] }
  | _ => none }
def fnExactPutEntryRow : OpenClaim := { program := "ytjbkbbcogimaiaa", sum := "ef99cf1aab373d3c04860ca817914ffe1c9759ac9d98bbc093a344a1f2ba4c86", func := "loop.example/proofarchive/laws.FnExactPutEntry", spec := "fnExactPutEntry", inPlace := ["slices.overlaps[loop.example/proofarchive/impl.Entry]"], unfollowed := true, recurses := true, apart := false }
def FnExactPutEntrySaid : Prop := fnExactPutEntryRow.holds Try.pinned (OpenSpec.ofChange fnExactPutEntrySpec)

/-- ITS FALSE NEIGHBOUR: 'it returns false'. Refute it at one input. -/
def fnExactPutEntryWrong : ChangeSpec := { name := "fnExactPutEntry", fn := fun _ => fun
  | [d1, d2] => { results := [.lit (.bool false)], args := [d1, d2] }
  | _ => none }
def FnExactPutEntryWrongFalsely : Prop := fnExactPutEntryRow.holds Try.pinned (OpenSpec.ofChange fnExactPutEntryWrong)

/-- 'laws.FnExactDropEntry': WHATEVER THE INPUT: true; the input reads as it did. -/
def fnExactDropEntrySpec : ChangeSpec := { name := "fnExactDropEntry", fn := fun _ => fun
  | [d1, d2] => { results := [.lit (.bool true)], args := [d1, d2] }
  | _ => none }
def fnExactDropEntryRow : OpenClaim := { program := "ytjbkbbcogimaiaa", sum := "ef99cf1aab373d3c04860ca817914ffe1c9759ac9d98bbc093a344a1f2ba4c86", func := "loop.example/proofarchive/laws.FnExactDropEntry", spec := "fnExactDropEntry", unfollowed := true, recurses := true, apart := false }
def FnExactDropEntrySaid : Prop := fnExactDropEntryRow.holds Try.pinned (OpenSpec.ofChange fnExactDropEntrySpec)

/-- ITS FALSE NEIGHBOUR: 'it returns false'. Refute it at one input. -/
def fnExactDropEntryWrong : ChangeSpec := { name := "fnExactDropEntry", fn := fun _ => fun
  | [d1, d2] => { results := [.lit (.bool false)], args := [d1, d2] }
  | _ => none }
def FnExactDropEntryWrongFalsely : Prop := fnExactDropEntryRow.holds Try.pinned (OpenSpec.ofChange fnExactDropEntryWrong)

/- THE SECOND FORM. 'bulk': how many values and letters a reading holds, each counted each time it is reached (what is shared counts as often as it is met; a slice's spare places count too). A statement '..UptoSaid' is the law's where the arguments, and the package variables that the reading takes, are together of bulk at most 1048576: NARROWER than '..Said'. Prove '..Said' where nothing that the law and all that it calls make is longer than what came in: it says more and counts as full. Else prove '..UptoSaid'. A law counts once. -/
mutual
def uptoBulk {H : Type} : DataW H → Nat
  | .lit (.string bytes) => bytes.length + 1
  | .lit _ => 1
  | .nil => 1
  | .ptr d => uptoBulk d + 1
  | .slice elems spare => uptoBulkAll elems + uptoBulkAll spare + 1
  | .agg parts => uptoBulkAll parts + 1
  | .iface _ d => uptoBulk d + 1
  | .map entries => uptoBulkEntries entries + 1
  | .held _ => 1
def uptoBulkAll {H : Type} : List (DataW H) → Nat
  | [] => 0
  | d :: r => uptoBulk d + uptoBulkAll r
def uptoBulkEntries {H : Type} : List (Lit × DataW H) → Nat
  | [] => 0
  | x :: r => uptoBulkEntry x + uptoBulkEntries r
def uptoBulkEntry {H : Type} : Lit × DataW H → Nat
  | (.string bytes, d) => bytes.length + uptoBulk d + 1
  | (_, d) => uptoBulk d + 1
 end
def uptoSmall : (H : Type) → List (DataW H) → Bool := fun _ ds => decide (uptoBulkAll ds ≤ 1048576)
def OpenSpec.upto (s : _root_.Go.ChangeSpec) : _root_.Go.OpenSpec := { _root_.Go.OpenSpec.ofChange s with cond := some uptoSmall }

/-- 'laws.FnEntriesValid', WHERE WHAT IT READS IS OF BULK AT MOST 1048576: true; the input reads as it did. -/
def fnEntriesValidUptoRow : OpenClaim := { program := "ytjbkbbcogimaiaa", sum := "ef99cf1aab373d3c04860ca817914ffe1c9759ac9d98bbc093a344a1f2ba4c86", func := "loop.example/proofarchive/laws.FnEntriesValid", spec := "fnEntriesValid", apart := false, narrowed := true }
def FnEntriesValidUptoSaid : Prop := fnEntriesValidUptoRow.holds Try.pinned (OpenSpec.upto fnEntriesValidSpec)

/-- 'laws.FnFolderText', WHERE WHAT IT READS IS OF BULK AT MOST 1048576: true; the input reads as it did. -/
def fnFolderTextUptoRow : OpenClaim := { program := "ytjbkbbcogimaiaa", sum := "ef99cf1aab373d3c04860ca817914ffe1c9759ac9d98bbc093a344a1f2ba4c86", func := "loop.example/proofarchive/laws.FnFolderText", spec := "fnFolderText", inPlace := ["internal/bytealg.IndexByteString", "internal/bytealg.IndexString"], named := ["internal/bytealg.MaxLen"], apart := false, narrowed := true }
def FnFolderTextUptoSaid : Prop := fnFolderTextUptoRow.holds Try.pinned (OpenSpec.upto fnFolderTextSpec)

/-- 'laws.FnReadFolder', WHERE WHAT IT READS IS OF BULK AT MOST 1048576: true; the input reads as it did. -/
def fnReadFolderUptoRow : OpenClaim := { program := "ytjbkbbcogimaiaa", sum := "ef99cf1aab373d3c04860ca817914ffe1c9759ac9d98bbc093a344a1f2ba4c86", func := "loop.example/proofarchive/laws.FnReadFolder", spec := "fnReadFolder", inPlace := ["internal/bytealg.IndexByteString", "internal/bytealg.IndexString"], named := ["internal/bytealg.MaxLen"], apart := false, narrowed := true }
def FnReadFolderUptoSaid : Prop := fnReadFolderUptoRow.holds Try.pinned (OpenSpec.upto fnReadFolderSpec)

/-- 'laws.FnPutEntry', WHERE WHAT IT READS IS OF BULK AT MOST 1048576: true; the input reads as it did. -/
def fnPutEntryUptoRow : OpenClaim := { program := "ytjbkbbcogimaiaa", sum := "ef99cf1aab373d3c04860ca817914ffe1c9759ac9d98bbc093a344a1f2ba4c86", func := "loop.example/proofarchive/laws.FnPutEntry", spec := "fnPutEntry", inPlace := ["slices.overlaps[loop.example/proofarchive/impl.Entry]"], unfollowed := true, recurses := true, apart := false, narrowed := true }
def FnPutEntryUptoSaid : Prop := fnPutEntryUptoRow.holds Try.pinned (OpenSpec.upto fnPutEntrySpec)

/-- 'laws.FnDropEntry', WHERE WHAT IT READS IS OF BULK AT MOST 1048576: true; the input reads as it did. -/
def fnDropEntryUptoRow : OpenClaim := { program := "ytjbkbbcogimaiaa", sum := "ef99cf1aab373d3c04860ca817914ffe1c9759ac9d98bbc093a344a1f2ba4c86", func := "loop.example/proofarchive/laws.FnDropEntry", spec := "fnDropEntry", unfollowed := true, recurses := true, apart := false, narrowed := true }
def FnDropEntryUptoSaid : Prop := fnDropEntryUptoRow.holds Try.pinned (OpenSpec.upto fnDropEntrySpec)

/-- 'laws.FnExactEntriesValid', WHERE WHAT IT READS IS OF BULK AT MOST 1048576: true; the input reads as it did. -/
def fnExactEntriesValidUptoRow : OpenClaim := { program := "ytjbkbbcogimaiaa", sum := "ef99cf1aab373d3c04860ca817914ffe1c9759ac9d98bbc093a344a1f2ba4c86", func := "loop.example/proofarchive/laws.FnExactEntriesValid", spec := "fnExactEntriesValid", apart := false, narrowed := true }
def FnExactEntriesValidUptoSaid : Prop := fnExactEntriesValidUptoRow.holds Try.pinned (OpenSpec.upto fnExactEntriesValidSpec)

/-- 'laws.FnExactFolderText', WHERE WHAT IT READS IS OF BULK AT MOST 1048576: true; the input reads as it did. -/
def fnExactFolderTextUptoRow : OpenClaim := { program := "ytjbkbbcogimaiaa", sum := "ef99cf1aab373d3c04860ca817914ffe1c9759ac9d98bbc093a344a1f2ba4c86", func := "loop.example/proofarchive/laws.FnExactFolderText", spec := "fnExactFolderText", apart := false, narrowed := true }
def FnExactFolderTextUptoSaid : Prop := fnExactFolderTextUptoRow.holds Try.pinned (OpenSpec.upto fnExactFolderTextSpec)

/-- 'laws.FnExactReadFolder', WHERE WHAT IT READS IS OF BULK AT MOST 1048576: true; the input reads as it did. -/
def fnExactReadFolderUptoRow : OpenClaim := { program := "ytjbkbbcogimaiaa", sum := "ef99cf1aab373d3c04860ca817914ffe1c9759ac9d98bbc093a344a1f2ba4c86", func := "loop.example/proofarchive/laws.FnExactReadFolder", spec := "fnExactReadFolder", inPlace := ["internal/bytealg.IndexByteString", "internal/bytealg.IndexString"], named := ["internal/bytealg.MaxLen"], apart := false, narrowed := true }
def FnExactReadFolderUptoSaid : Prop := fnExactReadFolderUptoRow.holds Try.pinned (OpenSpec.upto fnExactReadFolderSpec)

/-- 'laws.FnExactPutEntry', WHERE WHAT IT READS IS OF BULK AT MOST 1048576: true; the input reads as it did. -/
def fnExactPutEntryUptoRow : OpenClaim := { program := "ytjbkbbcogimaiaa", sum := "ef99cf1aab373d3c04860ca817914ffe1c9759ac9d98bbc093a344a1f2ba4c86", func := "loop.example/proofarchive/laws.FnExactPutEntry", spec := "fnExactPutEntry", inPlace := ["slices.overlaps[loop.example/proofarchive/impl.Entry]"], unfollowed := true, recurses := true, apart := false, narrowed := true }
def FnExactPutEntryUptoSaid : Prop := fnExactPutEntryUptoRow.holds Try.pinned (OpenSpec.upto fnExactPutEntrySpec)

/-- 'laws.FnExactDropEntry', WHERE WHAT IT READS IS OF BULK AT MOST 1048576: true; the input reads as it did. -/
def fnExactDropEntryUptoRow : OpenClaim := { program := "ytjbkbbcogimaiaa", sum := "ef99cf1aab373d3c04860ca817914ffe1c9759ac9d98bbc093a344a1f2ba4c86", func := "loop.example/proofarchive/laws.FnExactDropEntry", spec := "fnExactDropEntry", unfollowed := true, recurses := true, apart := false, narrowed := true }
def FnExactDropEntryUptoSaid : Prop := fnExactDropEntryUptoRow.holds Try.pinned (OpenSpec.upto fnExactDropEntrySpec)

end Rows
end Go.Proofs.Ytjbkbbcogimaiaa
