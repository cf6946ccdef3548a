/-
  No cell of these rows narrows 'for every input' (looked for: loops, veiled, ifaces, maps, wideKeys, modest, calm, conditions, laid).
  DERIVED. THE GIVEN ROWS OF THIS SEAT. 8 by the template 'for every input the law returns true; each argument reads behind the call as it read before'; 0 by the template 'total and deterministic' (their statements: YtefcmpbjfcpdeaaTotals.lean).
  GIVEN WITH THE SEED: the statements are not yours to turn. If you find one false, say at which input.
  Laid BY PROGRAM, IN A SANDBOX (cutbox-rows.mjs): the forced cells as the released guide's own fill.sh prints them over the translation 05d3815c8da03996… (all of the seat's roots in one cut). By AI agents, Wed Nov 11 2026. No macro, syntax, notation, axiom, sorry.
-/
import Derived.Test.YtefcmpbjfcpdeaaChecked
import GoSem.Claim
import GoSem.ClaimJoined
import GoSem.ClaimMapViews
import Derived.JoinedTies
import Derived.KernelRfl
namespace Go.Proofs.Ytefcmpbjfcpdeaa
/- THE CELL 'sum', in the pinned program and in every row, IS THE sha256 OF THE DUMP (.gsa) THAT YtefcmpbjfcpdeaaProg.lean LOADS. Nothing in Lean hashes anything: it is a label: what it is worth is what the hold of that sum in a sandbox is worth. -/
noncomputable def Try.pinned : Pinned := { name := "ytefcmpbjfcpdeaa", sum := "05d3815c8da03996fbbcccbd735529a138cfccc7fbe12b07c4b38a8608320ddb", checked := Try.checked }
namespace Rows
def none {H : Type} : Left H := { results := [], args := [] }

/-- 'laws.FnChunkEnds': WHATEVER THE INPUT: true; the input reads as it did. -/
def fnChunkEndsSpec : ChangeSpec := { name := "fnChunkEnds", fn := fun _ => fun
  | [d] => { results := [.lit (.bool true)], args := [d] }
  | _ => none }
def fnChunkEndsRow : OpenClaim := { program := "ytefcmpbjfcpdeaa", sum := "05d3815c8da03996fbbcccbd735529a138cfccc7fbe12b07c4b38a8608320ddb", func := "loop.example/proofarchive/laws.FnChunkEnds", spec := "fnChunkEnds", apart := false }
def FnChunkEndsSaid : Prop := fnChunkEndsRow.holds Try.pinned (OpenSpec.ofChange fnChunkEndsSpec)

/-- ITS FALSE NEIGHBOUR: 'it returns false'. Refute it at one input. -/
def fnChunkEndsWrong : ChangeSpec := { name := "fnChunkEnds", fn := fun _ => fun
  | [d] => { results := [.lit (.bool false)], args := [d] }
  | _ => none }
def FnChunkEndsWrongFalsely : Prop := fnChunkEndsRow.holds Try.pinned (OpenSpec.ofChange fnChunkEndsWrong)

/-- 'laws.FnChunksOf': WHATEVER THE INPUT: true; the input reads as it did. -/
def fnChunksOfSpec : ChangeSpec := { name := "fnChunksOf", fn := fun _ => fun
  | [d] => { results := [.lit (.bool true)], args := [d] }
  | _ => none }
def fnChunksOfRow : OpenClaim := { program := "ytefcmpbjfcpdeaa", sum := "05d3815c8da03996fbbcccbd735529a138cfccc7fbe12b07c4b38a8608320ddb", func := "loop.example/proofarchive/laws.FnChunksOf", spec := "fnChunksOf", apart := false }
def FnChunksOfSaid : Prop := fnChunksOfRow.holds Try.pinned (OpenSpec.ofChange fnChunksOfSpec)

/-- ITS FALSE NEIGHBOUR: 'it returns false'. Refute it at one input. -/
def fnChunksOfWrong : ChangeSpec := { name := "fnChunksOf", fn := fun _ => fun
  | [d] => { results := [.lit (.bool false)], args := [d] }
  | _ => none }
def FnChunksOfWrongFalsely : Prop := fnChunksOfRow.holds Try.pinned (OpenSpec.ofChange fnChunksOfWrong)

/-- 'laws.FnJoinChunks': WHATEVER THE INPUT: true; the input reads as it did. -/
def fnJoinChunksSpec : ChangeSpec := { name := "fnJoinChunks", fn := fun _ => fun
  | [d] => { results := [.lit (.bool true)], args := [d] }
  | _ => none }
def fnJoinChunksRow : OpenClaim := { program := "ytefcmpbjfcpdeaa", sum := "05d3815c8da03996fbbcccbd735529a138cfccc7fbe12b07c4b38a8608320ddb", func := "loop.example/proofarchive/laws.FnJoinChunks", spec := "fnJoinChunks", apart := false }
def FnJoinChunksSaid : Prop := fnJoinChunksRow.holds Try.pinned (OpenSpec.ofChange fnJoinChunksSpec)

/-- ITS FALSE NEIGHBOUR: 'it returns false'. Refute it at one input. -/
def fnJoinChunksWrong : ChangeSpec := { name := "fnJoinChunks", fn := fun _ => fun
  | [d] => { results := [.lit (.bool false)], args := [d] }
  | _ => none }
def FnJoinChunksWrongFalsely : Prop := fnJoinChunksRow.holds Try.pinned (OpenSpec.ofChange fnJoinChunksWrong)

/-- 'laws.FnChunkPrints': WHATEVER THE INPUT: true; the input reads as it did. -/
def fnChunkPrintsSpec : ChangeSpec := { name := "fnChunkPrints", fn := fun _ => fun
  | [d] => { results := [.lit (.bool true)], args := [d] }
  | _ => none }
def fnChunkPrintsRow : OpenClaim := { program := "ytefcmpbjfcpdeaa", sum := "05d3815c8da03996fbbcccbd735529a138cfccc7fbe12b07c4b38a8608320ddb", func := "loop.example/proofarchive/laws.FnChunkPrints", spec := "fnChunkPrints", apart := false }
def FnChunkPrintsSaid : Prop := fnChunkPrintsRow.holds Try.pinned (OpenSpec.ofChange fnChunkPrintsSpec)

/-- ITS FALSE NEIGHBOUR: 'it returns false'. Refute it at one input. -/
def fnChunkPrintsWrong : ChangeSpec := { name := "fnChunkPrints", fn := fun _ => fun
  | [d] => { results := [.lit (.bool false)], args := [d] }
  | _ => none }
def FnChunkPrintsWrongFalsely : Prop := fnChunkPrintsRow.holds Try.pinned (OpenSpec.ofChange fnChunkPrintsWrong)

/-- 'laws.FnExactChunkEnds': WHATEVER THE INPUT: true; the input reads as it did. -/
def fnExactChunkEndsSpec : ChangeSpec := { name := "fnExactChunkEnds", fn := fun _ => fun
  | [d] => { results := [.lit (.bool true)], args := [d] }
  | _ => none }
def fnExactChunkEndsRow : OpenClaim := { program := "ytefcmpbjfcpdeaa", sum := "05d3815c8da03996fbbcccbd735529a138cfccc7fbe12b07c4b38a8608320ddb", func := "loop.example/proofarchive/laws.FnExactChunkEnds", spec := "fnExactChunkEnds", apart := false }
def FnExactChunkEndsSaid : Prop := fnExactChunkEndsRow.holds Try.pinned (OpenSpec.ofChange fnExactChunkEndsSpec)

/-- ITS FALSE NEIGHBOUR: 'it returns false'. Refute it at one input. -/
def fnExactChunkEndsWrong : ChangeSpec := { name := "fnExactChunkEnds", fn := fun _ => fun
  | [d] => { results := [.lit (.bool false)], args := [d] }
  | _ => none }
def FnExactChunkEndsWrongFalsely : Prop := fnExactChunkEndsRow.holds Try.pinned (OpenSpec.ofChange fnExactChunkEndsWrong)

/-- 'laws.FnExactChunksOf': WHATEVER THE INPUT: true; the input reads as it did. -/
def fnExactChunksOfSpec : ChangeSpec := { name := "fnExactChunksOf", fn := fun _ => fun
  | [d] => { results := [.lit (.bool true)], args := [d] }
  | _ => none }
def fnExactChunksOfRow : OpenClaim := { program := "ytefcmpbjfcpdeaa", sum := "05d3815c8da03996fbbcccbd735529a138cfccc7fbe12b07c4b38a8608320ddb", func := "loop.example/proofarchive/laws.FnExactChunksOf", spec := "fnExactChunksOf", apart := false }
def FnExactChunksOfSaid : Prop := fnExactChunksOfRow.holds Try.pinned (OpenSpec.ofChange fnExactChunksOfSpec)

/-- ITS FALSE NEIGHBOUR: 'it returns false'. Refute it at one input. -/
def fnExactChunksOfWrong : ChangeSpec := { name := "fnExactChunksOf", fn := fun _ => fun
  | [d] => { results := [.lit (.bool false)], args := [d] }
  | _ => none }
def FnExactChunksOfWrongFalsely : Prop := fnExactChunksOfRow.holds Try.pinned (OpenSpec.ofChange fnExactChunksOfWrong)

/-- 'laws.FnExactJoinChunks': WHATEVER THE INPUT: true; the input reads as it did. -/
def fnExactJoinChunksSpec : ChangeSpec := { name := "fnExactJoinChunks", fn := fun _ => fun
  | [d] => { results := [.lit (.bool true)], args := [d] }
  | _ => none }
def fnExactJoinChunksRow : OpenClaim := { program := "ytefcmpbjfcpdeaa", sum := "05d3815c8da03996fbbcccbd735529a138cfccc7fbe12b07c4b38a8608320ddb", func := "loop.example/proofarchive/laws.FnExactJoinChunks", spec := "fnExactJoinChunks", apart := false }
def FnExactJoinChunksSaid : Prop := fnExactJoinChunksRow.holds Try.pinned (OpenSpec.ofChange fnExactJoinChunksSpec)

/-- ITS FALSE NEIGHBOUR: 'it returns false'. Refute it at one input. -/
def fnExactJoinChunksWrong : ChangeSpec := { name := "fnExactJoinChunks", fn := fun _ => fun
  | [d] => { results := [.lit (.bool false)], args := [d] }
  | _ => none }
def FnExactJoinChunksWrongFalsely : Prop := fnExactJoinChunksRow.holds Try.pinned (OpenSpec.ofChange fnExactJoinChunksWrong)

/-- 'laws.FnExactChunkPrints': WHATEVER THE INPUT: true; the input reads as it did. -/
def fnExactChunkPrintsSpec : ChangeSpec := { name := "fnExactChunkPrints", fn := fun _ => fun
  | [d] => { results := [.lit (.bool true)], args := [d] }
  | _ => none }
def fnExactChunkPrintsRow : OpenClaim := { program := "ytefcmpbjfcpdeaa", sum := "05d3815c8da03996fbbcccbd735529a138cfccc7fbe12b07c4b38a8608320ddb", func := "loop.example/proofarchive/laws.FnExactChunkPrints", spec := "fnExactChunkPrints", apart := false }
def FnExactChunkPrintsSaid : Prop := fnExactChunkPrintsRow.holds Try.pinned (OpenSpec.ofChange fnExactChunkPrintsSpec)

/-- ITS FALSE NEIGHBOUR: 'it returns false'. Refute it at one input. -/
def fnExactChunkPrintsWrong : ChangeSpec := { name := "fnExactChunkPrints", fn := fun _ => fun
  | [d] => { results := [.lit (.bool false)], args := [d] }
  | _ => none }
def FnExactChunkPrintsWrongFalsely : Prop := fnExactChunkPrintsRow.holds Try.pinned (OpenSpec.ofChange fnExactChunkPrintsWrong)

/- THE SECOND FORM. 'bulk': how many values and letters a reading holds, each counted each time it is reached (what is shared counts as often as it is met; a slice's spare places count too). A statement '..UptoSaid' is the law's where the arguments, and the package variables that the reading takes, are together of bulk at most 1048576: NARROWER than '..Said'. Prove '..Said' where nothing that the law and all that it calls make is longer than what came in: it says more and counts as full. Else prove '..UptoSaid'. A law counts once. -/
mutual
def uptoBulk {H : Type} : DataW H → Nat
  | .lit (.string bytes) => bytes.length + 1
  | .lit _ => 1
  | .nil => 1
  | .ptr d => uptoBulk d + 1
  | .slice elems spare => uptoBulkAll elems + uptoBulkAll spare + 1
  | .agg parts => uptoBulkAll parts + 1
  | .iface _ d => uptoBulk d + 1
  | .map entries => uptoBulkEntries entries + 1
  | .held _ => 1
def uptoBulkAll {H : Type} : List (DataW H) → Nat
  | [] => 0
  | d :: r => uptoBulk d + uptoBulkAll r
def uptoBulkEntries {H : Type} : List (Lit × DataW H) → Nat
  | [] => 0
  | x :: r => uptoBulkEntry x + uptoBulkEntries r
def uptoBulkEntry {H : Type} : Lit × DataW H → Nat
  | (.string bytes, d) => bytes.length + uptoBulk d + 1
  | (_, d) => uptoBulk d + 1
 end
def uptoSmall : (H : Type) → List (DataW H) → Bool := fun _ ds => decide (uptoBulkAll ds ≤ 1048576)
def OpenSpec.upto (s : _root_.Go.ChangeSpec) : _root_.Go.OpenSpec := { _root_.Go.OpenSpec.ofChange s with cond := some uptoSmall }

/-- 'laws.FnChunkEnds', WHERE WHAT IT READS IS OF BULK AT MOST 1048576: true; the input reads as it did. -/
def fnChunkEndsUptoRow : OpenClaim := { program := "ytefcmpbjfcpdeaa", sum := "05d3815c8da03996fbbcccbd735529a138cfccc7fbe12b07c4b38a8608320ddb", func := "loop.example/proofarchive/laws.FnChunkEnds", spec := "fnChunkEnds", apart := false, narrowed := true }
def FnChunkEndsUptoSaid : Prop := fnChunkEndsUptoRow.holds Try.pinned (OpenSpec.upto fnChunkEndsSpec)

/-- 'laws.FnChunksOf', WHERE WHAT IT READS IS OF BULK AT MOST 1048576: true; the input reads as it did. -/
def fnChunksOfUptoRow : OpenClaim := { program := "ytefcmpbjfcpdeaa", sum := "05d3815c8da03996fbbcccbd735529a138cfccc7fbe12b07c4b38a8608320ddb", func := "loop.example/proofarchive/laws.FnChunksOf", spec := "fnChunksOf", apart := false, narrowed := true }
def FnChunksOfUptoSaid : Prop := fnChunksOfUptoRow.holds Try.pinned (OpenSpec.upto fnChunksOfSpec)

/-- 'laws.FnJoinChunks', WHERE WHAT IT READS IS OF BULK AT MOST 1048576: true; the input reads as it did. -/
def fnJoinChunksUptoRow : OpenClaim := { program := "ytefcmpbjfcpdeaa", sum := "05d3815c8da03996fbbcccbd735529a138cfccc7fbe12b07c4b38a8608320ddb", func := "loop.example/proofarchive/laws.FnJoinChunks", spec := "fnJoinChunks", apart := false, narrowed := true }
def FnJoinChunksUptoSaid : Prop := fnJoinChunksUptoRow.holds Try.pinned (OpenSpec.upto fnJoinChunksSpec)

/-- 'laws.FnChunkPrints', WHERE WHAT IT READS IS OF BULK AT MOST 1048576: true; the input reads as it did. -/
def fnChunkPrintsUptoRow : OpenClaim := { program := "ytefcmpbjfcpdeaa", sum := "05d3815c8da03996fbbcccbd735529a138cfccc7fbe12b07c4b38a8608320ddb", func := "loop.example/proofarchive/laws.FnChunkPrints", spec := "fnChunkPrints", apart := false, narrowed := true }
def FnChunkPrintsUptoSaid : Prop := fnChunkPrintsUptoRow.holds Try.pinned (OpenSpec.upto fnChunkPrintsSpec)

/-- 'laws.FnExactChunkEnds', WHERE WHAT IT READS IS OF BULK AT MOST 1048576: true; the input reads as it did. -/
def fnExactChunkEndsUptoRow : OpenClaim := { program := "ytefcmpbjfcpdeaa", sum := "05d3815c8da03996fbbcccbd735529a138cfccc7fbe12b07c4b38a8608320ddb", func := "loop.example/proofarchive/laws.FnExactChunkEnds", spec := "fnExactChunkEnds", apart := false, narrowed := true }
def FnExactChunkEndsUptoSaid : Prop := fnExactChunkEndsUptoRow.holds Try.pinned (OpenSpec.upto fnExactChunkEndsSpec)

/-- 'laws.FnExactChunksOf', WHERE WHAT IT READS IS OF BULK AT MOST 1048576: true; the input reads as it did. -/
def fnExactChunksOfUptoRow : OpenClaim := { program := "ytefcmpbjfcpdeaa", sum := "05d3815c8da03996fbbcccbd735529a138cfccc7fbe12b07c4b38a8608320ddb", func := "loop.example/proofarchive/laws.FnExactChunksOf", spec := "fnExactChunksOf", apart := false, narrowed := true }
def FnExactChunksOfUptoSaid : Prop := fnExactChunksOfUptoRow.holds Try.pinned (OpenSpec.upto fnExactChunksOfSpec)

/-- 'laws.FnExactJoinChunks', WHERE WHAT IT READS IS OF BULK AT MOST 1048576: true; the input reads as it did. -/
def fnExactJoinChunksUptoRow : OpenClaim := { program := "ytefcmpbjfcpdeaa", sum := "05d3815c8da03996fbbcccbd735529a138cfccc7fbe12b07c4b38a8608320ddb", func := "loop.example/proofarchive/laws.FnExactJoinChunks", spec := "fnExactJoinChunks", apart := false, narrowed := true }
def FnExactJoinChunksUptoSaid : Prop := fnExactJoinChunksUptoRow.holds Try.pinned (OpenSpec.upto fnExactJoinChunksSpec)

/-- 'laws.FnExactChunkPrints', WHERE WHAT IT READS IS OF BULK AT MOST 1048576: true; the input reads as it did. -/
def fnExactChunkPrintsUptoRow : OpenClaim := { program := "ytefcmpbjfcpdeaa", sum := "05d3815c8da03996fbbcccbd735529a138cfccc7fbe12b07c4b38a8608320ddb", func := "loop.example/proofarchive/laws.FnExactChunkPrints", spec := "fnExactChunkPrints", apart := false, narrowed := true }
def FnExactChunkPrintsUptoSaid : Prop := fnExactChunkPrintsUptoRow.holds Try.pinned (OpenSpec.upto fnExactChunkPrintsSpec)

end Rows
end Go.Proofs.Ytefcmpbjfcpdeaa
