/-
  No cell of these rows narrows 'for every input' (looked for: loops, veiled, ifaces, maps, wideKeys, modest, calm, conditions, laid).
  DERIVED. THE GIVEN ROWS OF THIS SEAT. 8 by the template 'for every input the law returns true; each argument reads behind the call as it read before'; 0 by the template 'total and deterministic' (their statements: YtmjhhjnolelheaaTotals.lean).
  GIVEN WITH THE SEED: the statements are not yours to turn. If you find one false, say at which input.
  Laid BY PROGRAM, IN A SANDBOX (cutbox-rows.mjs): the forced cells as the released guide's own fill.sh prints them over the translation ece490fd699ae15b… (all of the seat's roots in one cut). By AI agents, Wed Nov 11 2026. No macro, syntax, notation, axiom, sorry.
-/
import Derived.Test.YtmjhhjnolelheaaChecked
import GoSem.Claim
import GoSem.ClaimJoined
import GoSem.ClaimMapViews
import Derived.JoinedTies
import Derived.KernelRfl
namespace Go.Proofs.Ytmjhhjnolelheaa
/- THE CELL 'sum', in the pinned program and in every row, IS THE sha256 OF THE DUMP (.gsa) THAT YtmjhhjnolelheaaProg.lean LOADS. Nothing in Lean hashes anything: it is a label: what it is worth is what the hold of that sum in a sandbox is worth. -/
noncomputable def Try.pinned : Pinned := { name := "ytmjhhjnolelheaa", sum := "ece490fd699ae15b74a07497a3c0ce5af3e58485971343635f077f2e71e70874", checked := Try.checked }
namespace Rows
def none {H : Type} : Left H := { results := [], args := [] }

/-- 'laws.FnContentValid': WHATEVER THE INPUT: true; the input reads as it did. -/
def fnContentValidSpec : ChangeSpec := { name := "fnContentValid", fn := fun _ => fun
  | [d] => { results := [.lit (.bool true)], args := [d] }
  | _ => none }
def fnContentValidRow : OpenClaim := { program := "ytmjhhjnolelheaa", sum := "ece490fd699ae15b74a07497a3c0ce5af3e58485971343635f077f2e71e70874", func := "loop.example/proofarchive/laws.FnContentValid", spec := "fnContentValid", apart := false }
def FnContentValidSaid : Prop := fnContentValidRow.holds Try.pinned (OpenSpec.ofChange fnContentValidSpec)

/-- ITS FALSE NEIGHBOUR: 'it returns false'. Refute it at one input. -/
def fnContentValidWrong : ChangeSpec := { name := "fnContentValid", fn := fun _ => fun
  | [d] => { results := [.lit (.bool false)], args := [d] }
  | _ => none }
def FnContentValidWrongFalsely : Prop := fnContentValidRow.holds Try.pinned (OpenSpec.ofChange fnContentValidWrong)

/-- 'laws.FnFileText': WHATEVER THE INPUT: true; the input reads as it did. -/
def fnFileTextSpec : ChangeSpec := { name := "fnFileText", fn := fun _ => fun
  | [d] => { results := [.lit (.bool true)], args := [d] }
  | _ => none }
def fnFileTextRow : OpenClaim := { program := "ytmjhhjnolelheaa", sum := "ece490fd699ae15b74a07497a3c0ce5af3e58485971343635f077f2e71e70874", func := "loop.example/proofarchive/laws.FnFileText", spec := "fnFileText", apart := false }
def FnFileTextSaid : Prop := fnFileTextRow.holds Try.pinned (OpenSpec.ofChange fnFileTextSpec)

/-- ITS FALSE NEIGHBOUR: 'it returns false'. Refute it at one input. -/
def fnFileTextWrong : ChangeSpec := { name := "fnFileText", fn := fun _ => fun
  | [d] => { results := [.lit (.bool false)], args := [d] }
  | _ => none }
def FnFileTextWrongFalsely : Prop := fnFileTextRow.holds Try.pinned (OpenSpec.ofChange fnFileTextWrong)

/-- 'laws.FnReadFile': WHATEVER THE INPUT: true; the input reads as it did. -/
def fnReadFileSpec : ChangeSpec := { name := "fnReadFile", fn := fun _ => fun
  | [d] => { results := [.lit (.bool true)], args := [d] }
  | _ => none }
def fnReadFileRow : OpenClaim := { program := "ytmjhhjnolelheaa", sum := "ece490fd699ae15b74a07497a3c0ce5af3e58485971343635f077f2e71e70874", func := "loop.example/proofarchive/laws.FnReadFile", spec := "fnReadFile", apart := false }
def FnReadFileSaid : Prop := fnReadFileRow.holds Try.pinned (OpenSpec.ofChange fnReadFileSpec)

/-- ITS FALSE NEIGHBOUR: 'it returns false'. Refute it at one input. -/
def fnReadFileWrong : ChangeSpec := { name := "fnReadFile", fn := fun _ => fun
  | [d] => { results := [.lit (.bool false)], args := [d] }
  | _ => none }
def FnReadFileWrongFalsely : Prop := fnReadFileRow.holds Try.pinned (OpenSpec.ofChange fnReadFileWrong)

/-- 'laws.FnTextKind': WHATEVER THE INPUT: true; the input reads as it did. -/
def fnTextKindSpec : ChangeSpec := { name := "fnTextKind", fn := fun _ => fun
  | [d] => { results := [.lit (.bool true)], args := [d] }
  | _ => none }
def fnTextKindRow : OpenClaim := { program := "ytmjhhjnolelheaa", sum := "ece490fd699ae15b74a07497a3c0ce5af3e58485971343635f077f2e71e70874", func := "loop.example/proofarchive/laws.FnTextKind", spec := "fnTextKind", inPlace := ["internal/bytealg.IndexByteString", "internal/bytealg.IndexString"], named := ["internal/bytealg.MaxLen"], apart := false }
def FnTextKindSaid : Prop := fnTextKindRow.holds Try.pinned (OpenSpec.ofChange fnTextKindSpec)

/-- ITS FALSE NEIGHBOUR: 'it returns false'. Refute it at one input. -/
def fnTextKindWrong : ChangeSpec := { name := "fnTextKind", fn := fun _ => fun
  | [d] => { results := [.lit (.bool false)], args := [d] }
  | _ => none }
def FnTextKindWrongFalsely : Prop := fnTextKindRow.holds Try.pinned (OpenSpec.ofChange fnTextKindWrong)

/-- 'laws.FnExactContentValid': WHATEVER THE INPUT: true; the input reads as it did. -/
def fnExactContentValidSpec : ChangeSpec := { name := "fnExactContentValid", fn := fun _ => fun
  | [d] => { results := [.lit (.bool true)], args := [d] }
  | _ => none }
def fnExactContentValidRow : OpenClaim := { program := "ytmjhhjnolelheaa", sum := "ece490fd699ae15b74a07497a3c0ce5af3e58485971343635f077f2e71e70874", func := "loop.example/proofarchive/laws.FnExactContentValid", spec := "fnExactContentValid", apart := false }
def FnExactContentValidSaid : Prop := fnExactContentValidRow.holds Try.pinned (OpenSpec.ofChange fnExactContentValidSpec)

/-- ITS FALSE NEIGHBOUR: 'it returns false'. Refute it at one input. -/
def fnExactContentValidWrong : ChangeSpec := { name := "fnExactContentValid", fn := fun _ => fun
  | [d] => { results := [.lit (.bool false)], args := [d] }
  | _ => none }
def FnExactContentValidWrongFalsely : Prop := fnExactContentValidRow.holds Try.pinned (OpenSpec.ofChange fnExactContentValidWrong)

/-- 'laws.FnExactFileText': WHATEVER THE INPUT: true; the input reads as it did. -/
def fnExactFileTextSpec : ChangeSpec := { name := "fnExactFileText", fn := fun _ => fun
  | [d] => { results := [.lit (.bool true)], args := [d] }
  | _ => none }
def fnExactFileTextRow : OpenClaim := { program := "ytmjhhjnolelheaa", sum := "ece490fd699ae15b74a07497a3c0ce5af3e58485971343635f077f2e71e70874", func := "loop.example/proofarchive/laws.FnExactFileText", spec := "fnExactFileText", apart := false }
def FnExactFileTextSaid : Prop := fnExactFileTextRow.holds Try.pinned (OpenSpec.ofChange fnExactFileTextSpec)

/-- ITS FALSE NEIGHBOUR: 'it returns false'. Refute it at one input. -/
def fnExactFileTextWrong : ChangeSpec := { name := "fnExactFileText", fn := fun _ => fun
  | [d] => { results := [.lit (.bool false)], args := [d] }
  | _ => none }
def FnExactFileTextWrongFalsely : Prop := fnExactFileTextRow.holds Try.pinned (OpenSpec.ofChange fnExactFileTextWrong)

/-- 'laws.FnExactReadFile': WHATEVER THE INPUT: true; the input reads as it did. -/
def fnExactReadFileSpec : ChangeSpec := { name := "fnExactReadFile", fn := fun _ => fun
  | [d] => { results := [.lit (.bool true)], args := [d] }
  | _ => none }
def fnExactReadFileRow : OpenClaim := { program := "ytmjhhjnolelheaa", sum := "ece490fd699ae15b74a07497a3c0ce5af3e58485971343635f077f2e71e70874", func := "loop.example/proofarchive/laws.FnExactReadFile", spec := "fnExactReadFile", apart := false }
def FnExactReadFileSaid : Prop := fnExactReadFileRow.holds Try.pinned (OpenSpec.ofChange fnExactReadFileSpec)

/-- ITS FALSE NEIGHBOUR: 'it returns false'. Refute it at one input. -/
def fnExactReadFileWrong : ChangeSpec := { name := "fnExactReadFile", fn := fun _ => fun
  | [d] => { results := [.lit (.bool false)], args := [d] }
  | _ => none }
def FnExactReadFileWrongFalsely : Prop := fnExactReadFileRow.holds Try.pinned (OpenSpec.ofChange fnExactReadFileWrong)

/-- 'laws.FnExactTextKind': WHATEVER THE INPUT: true; the input reads as it did. -/
def fnExactTextKindSpec : ChangeSpec := { name := "fnExactTextKind", fn := fun _ => fun
  | [d] => { results := [.lit (.bool true)], args := [d] }
  | _ => none }
def fnExactTextKindRow : OpenClaim := { program := "ytmjhhjnolelheaa", sum := "ece490fd699ae15b74a07497a3c0ce5af3e58485971343635f077f2e71e70874", func := "loop.example/proofarchive/laws.FnExactTextKind", spec := "fnExactTextKind", inPlace := ["internal/bytealg.IndexByteString", "internal/bytealg.IndexString"], named := ["internal/bytealg.MaxLen"], apart := false }
def FnExactTextKindSaid : Prop := fnExactTextKindRow.holds Try.pinned (OpenSpec.ofChange fnExactTextKindSpec)

/-- ITS FALSE NEIGHBOUR: 'it returns false'. Refute it at one input. -/
def fnExactTextKindWrong : ChangeSpec := { name := "fnExactTextKind", fn := fun _ => fun
  | [d] => { results := [.lit (.bool false)], args := [d] }
  | _ => none }
def FnExactTextKindWrongFalsely : Prop := fnExactTextKindRow.holds Try.pinned (OpenSpec.ofChange fnExactTextKindWrong)

/- THE SECOND FORM. 'bulk': how many values and letters a reading holds, each counted each time it is reached (what is shared counts as often as it is met; a slice's spare places count too). A statement '..UptoSaid' is the law's where the arguments, and the package variables that the reading takes, are together of bulk at most 1048576: NARROWER than '..Said'. Prove '..Said' where nothing that the law and all that it calls make is longer than what came in: it says more and counts as full. Else prove '..UptoSaid'. A law counts once. -/
mutual
def uptoBulk {H : Type} : DataW H → Nat
  | .lit (.string bytes) => bytes.length + 1
  | .lit _ => 1
  | .nil => 1
  | .ptr d => uptoBulk d + 1
  | .slice elems spare => uptoBulkAll elems + uptoBulkAll spare + 1
  | .agg parts => uptoBulkAll parts + 1
  | .iface _ d => uptoBulk d + 1
  | .map entries => uptoBulkEntries entries + 1
  | .held _ => 1
def uptoBulkAll {H : Type} : List (DataW H) → Nat
  | [] => 0
  | d :: r => uptoBulk d + uptoBulkAll r
def uptoBulkEntries {H : Type} : List (Lit × DataW H) → Nat
  | [] => 0
  | x :: r => uptoBulkEntry x + uptoBulkEntries r
def uptoBulkEntry {H : Type} : Lit × DataW H → Nat
  | (.string bytes, d) => bytes.length + uptoBulk d + 1
  | (_, d) => uptoBulk d + 1
 end
def uptoSmall : (H : Type) → List (DataW H) → Bool := fun _ ds => decide (uptoBulkAll ds ≤ 1048576)
def OpenSpec.upto (s : _root_.Go.ChangeSpec) : _root_.Go.OpenSpec := { _root_.Go.OpenSpec.ofChange s with cond := some uptoSmall }

/-- 'laws.FnContentValid', WHERE WHAT IT READS IS OF BULK AT MOST 1048576: true; the input reads as it did. -/
def fnContentValidUptoRow : OpenClaim := { program := "ytmjhhjnolelheaa", sum := "ece490fd699ae15b74a07497a3c0ce5af3e58485971343635f077f2e71e70874", func := "loop.example/proofarchive/laws.FnContentValid", spec := "fnContentValid", apart := false, narrowed := true }
def FnContentValidUptoSaid : Prop := fnContentValidUptoRow.holds Try.pinned (OpenSpec.upto fnContentValidSpec)

/-- 'laws.FnFileText', WHERE WHAT IT READS IS OF BULK AT MOST 1048576: true; the input reads as it did. -/
def fnFileTextUptoRow : OpenClaim := { program := "ytmjhhjnolelheaa", sum := "ece490fd699ae15b74a07497a3c0ce5af3e58485971343635f077f2e71e70874", func := "loop.example/proofarchive/laws.FnFileText", spec := "fnFileText", apart := false, narrowed := true }
def FnFileTextUptoSaid : Prop := fnFileTextUptoRow.holds Try.pinned (OpenSpec.upto fnFileTextSpec)

/-- 'laws.FnReadFile', WHERE WHAT IT READS IS OF BULK AT MOST 1048576: true; the input reads as it did. -/
def fnReadFileUptoRow : OpenClaim := { program := "ytmjhhjnolelheaa", sum := "ece490fd699ae15b74a07497a3c0ce5af3e58485971343635f077f2e71e70874", func := "loop.example/proofarchive/laws.FnReadFile", spec := "fnReadFile", apart := false, narrowed := true }
def FnReadFileUptoSaid : Prop := fnReadFileUptoRow.holds Try.pinned (OpenSpec.upto fnReadFileSpec)

/-- 'laws.FnTextKind', WHERE WHAT IT READS IS OF BULK AT MOST 1048576: true; the input reads as it did. -/
def fnTextKindUptoRow : OpenClaim := { program := "ytmjhhjnolelheaa", sum := "ece490fd699ae15b74a07497a3c0ce5af3e58485971343635f077f2e71e70874", func := "loop.example/proofarchive/laws.FnTextKind", spec := "fnTextKind", inPlace := ["internal/bytealg.IndexByteString", "internal/bytealg.IndexString"], named := ["internal/bytealg.MaxLen"], apart := false, narrowed := true }
def FnTextKindUptoSaid : Prop := fnTextKindUptoRow.holds Try.pinned (OpenSpec.upto fnTextKindSpec)

/-- 'laws.FnExactContentValid', WHERE WHAT IT READS IS OF BULK AT MOST 1048576: true; the input reads as it did. -/
def fnExactContentValidUptoRow : OpenClaim := { program := "ytmjhhjnolelheaa", sum := "ece490fd699ae15b74a07497a3c0ce5af3e58485971343635f077f2e71e70874", func := "loop.example/proofarchive/laws.FnExactContentValid", spec := "fnExactContentValid", apart := false, narrowed := true }
def FnExactContentValidUptoSaid : Prop := fnExactContentValidUptoRow.holds Try.pinned (OpenSpec.upto fnExactContentValidSpec)

/-- 'laws.FnExactFileText', WHERE WHAT IT READS IS OF BULK AT MOST 1048576: true; the input reads as it did. -/
def fnExactFileTextUptoRow : OpenClaim := { program := "ytmjhhjnolelheaa", sum := "ece490fd699ae15b74a07497a3c0ce5af3e58485971343635f077f2e71e70874", func := "loop.example/proofarchive/laws.FnExactFileText", spec := "fnExactFileText", apart := false, narrowed := true }
def FnExactFileTextUptoSaid : Prop := fnExactFileTextUptoRow.holds Try.pinned (OpenSpec.upto fnExactFileTextSpec)

/-- 'laws.FnExactReadFile', WHERE WHAT IT READS IS OF BULK AT MOST 1048576: true; the input reads as it did. -/
def fnExactReadFileUptoRow : OpenClaim := { program := "ytmjhhjnolelheaa", sum := "ece490fd699ae15b74a07497a3c0ce5af3e58485971343635f077f2e71e70874", func := "loop.example/proofarchive/laws.FnExactReadFile", spec := "fnExactReadFile", apart := false, narrowed := true }
def FnExactReadFileUptoSaid : Prop := fnExactReadFileUptoRow.holds Try.pinned (OpenSpec.upto fnExactReadFileSpec)

/-- 'laws.FnExactTextKind', WHERE WHAT IT READS IS OF BULK AT MOST 1048576: true; the input reads as it did. -/
def fnExactTextKindUptoRow : OpenClaim := { program := "ytmjhhjnolelheaa", sum := "ece490fd699ae15b74a07497a3c0ce5af3e58485971343635f077f2e71e70874", func := "loop.example/proofarchive/laws.FnExactTextKind", spec := "fnExactTextKind", inPlace := ["internal/bytealg.IndexByteString", "internal/bytealg.IndexString"], named := ["internal/bytealg.MaxLen"], apart := false, narrowed := true }
def FnExactTextKindUptoSaid : Prop := fnExactTextKindUptoRow.holds Try.pinned (OpenSpec.upto fnExactTextKindSpec)

end Rows
end Go.Proofs.Ytmjhhjnolelheaa
