/-
  No cell of these rows narrows 'for every input' (looked for: loops, veiled, ifaces, maps, wideKeys, modest, calm, conditions, laid).
  DERIVED. THE GIVEN ROWS OF THIS SEAT. 6 by the template 'for every input the law returns true; each argument reads behind the call as it read before'; 0 by the template 'total and deterministic' (their statements: YtlmbieaoenpeiaaTotals.lean).
  GIVEN WITH THE SEED: the statements are not yours to turn. If you find one false, say at which input.
  Laid BY PROGRAM, IN A SANDBOX (cutbox-rows.mjs): the forced cells as the released guide's own fill.sh prints them over the translation 88c10542ef244725… (all of the seat's roots in one cut). By AI agents, Wed Nov 11 2026. No macro, syntax, notation, axiom, sorry.
-/
import Derived.Test.YtlmbieaoenpeiaaChecked
import GoSem.Claim
import GoSem.ClaimJoined
import GoSem.ClaimMapViews
import Derived.JoinedTies
import Derived.KernelRfl
namespace Go.Proofs.Ytlmbieaoenpeiaa
/- THE CELL 'sum', in the pinned program and in every row, IS THE sha256 OF THE DUMP (.gsa) THAT YtlmbieaoenpeiaaProg.lean LOADS. Nothing in Lean hashes anything: it is a label: what it is worth is what the hold of that sum in a sandbox is worth. -/
noncomputable def Try.pinned : Pinned := { name := "ytlmbieaoenpeiaa", sum := "88c10542ef244725d265b59d3b58bb02b3589bb60fe99e3dab4c5d0aee37ac22", checked := Try.checked }
namespace Rows
def none {H : Type} : Left H := { results := [], args := [] }

/-- 'laws.FnPrintOf': WHATEVER THE INPUT: true; the input reads as it did. -/
def fnPrintOfSpec : ChangeSpec := { name := "fnPrintOf", fn := fun _ => fun
  | [d] => { results := [.lit (.bool true)], args := [d] }
  | _ => none }
def fnPrintOfRow : OpenClaim := { program := "ytlmbieaoenpeiaa", sum := "88c10542ef244725d265b59d3b58bb02b3589bb60fe99e3dab4c5d0aee37ac22", func := "loop.example/proofarchive/laws.FnPrintOf", spec := "fnPrintOf", apart := false }
def FnPrintOfSaid : Prop := fnPrintOfRow.holds Try.pinned (OpenSpec.ofChange fnPrintOfSpec)

/-- ITS FALSE NEIGHBOUR: 'it returns false'. Refute it at one input. -/
def fnPrintOfWrong : ChangeSpec := { name := "fnPrintOf", fn := fun _ => fun
  | [d] => { results := [.lit (.bool false)], args := [d] }
  | _ => none }
def FnPrintOfWrongFalsely : Prop := fnPrintOfRow.holds Try.pinned (OpenSpec.ofChange fnPrintOfWrong)

/-- 'laws.FnPrintPair': WHATEVER THE INPUT: true; the input reads as it did. -/
def fnPrintPairSpec : ChangeSpec := { name := "fnPrintPair", fn := fun _ => fun
  | [d] => { results := [.lit (.bool true)], args := [d] }
  | _ => none }
def fnPrintPairRow : OpenClaim := { program := "ytlmbieaoenpeiaa", sum := "88c10542ef244725d265b59d3b58bb02b3589bb60fe99e3dab4c5d0aee37ac22", func := "loop.example/proofarchive/laws.FnPrintPair", spec := "fnPrintPair", apart := false }
def FnPrintPairSaid : Prop := fnPrintPairRow.holds Try.pinned (OpenSpec.ofChange fnPrintPairSpec)

/-- ITS FALSE NEIGHBOUR: 'it returns false'. Refute it at one input. -/
def fnPrintPairWrong : ChangeSpec := { name := "fnPrintPair", fn := fun _ => fun
  | [d] => { results := [.lit (.bool false)], args := [d] }
  | _ => none }
def FnPrintPairWrongFalsely : Prop := fnPrintPairRow.holds Try.pinned (OpenSpec.ofChange fnPrintPairWrong)

/-- 'laws.FnPrintList': WHATEVER THE INPUT: true; the input reads as it did. -/
def fnPrintListSpec : ChangeSpec := { name := "fnPrintList", fn := fun _ => fun
  | [d] => { results := [.lit (.bool true)], args := [d] }
  | _ => none }
def fnPrintListRow : OpenClaim := { program := "ytlmbieaoenpeiaa", sum := "88c10542ef244725d265b59d3b58bb02b3589bb60fe99e3dab4c5d0aee37ac22", func := "loop.example/proofarchive/laws.FnPrintList", spec := "fnPrintList", apart := false }
def FnPrintListSaid : Prop := fnPrintListRow.holds Try.pinned (OpenSpec.ofChange fnPrintListSpec)

/-- ITS FALSE NEIGHBOUR: 'it returns false'. Refute it at one input. -/
def fnPrintListWrong : ChangeSpec := { name := "fnPrintList", fn := fun _ => fun
  | [d] => { results := [.lit (.bool false)], args := [d] }
  | _ => none }
def FnPrintListWrongFalsely : Prop := fnPrintListRow.holds Try.pinned (OpenSpec.ofChange fnPrintListWrong)

/-- 'laws.FnExactPrintOf': WHATEVER THE INPUT: true; the input reads as it did. -/
def fnExactPrintOfSpec : ChangeSpec := { name := "fnExactPrintOf", fn := fun _ => fun
  | [d] => { results := [.lit (.bool true)], args := [d] }
  | _ => none }
def fnExactPrintOfRow : OpenClaim := { program := "ytlmbieaoenpeiaa", sum := "88c10542ef244725d265b59d3b58bb02b3589bb60fe99e3dab4c5d0aee37ac22", func := "loop.example/proofarchive/laws.FnExactPrintOf", spec := "fnExactPrintOf", apart := false }
def FnExactPrintOfSaid : Prop := fnExactPrintOfRow.holds Try.pinned (OpenSpec.ofChange fnExactPrintOfSpec)

/-- ITS FALSE NEIGHBOUR: 'it returns false'. Refute it at one input. -/
def fnExactPrintOfWrong : ChangeSpec := { name := "fnExactPrintOf", fn := fun _ => fun
  | [d] => { results := [.lit (.bool false)], args := [d] }
  | _ => none }
def FnExactPrintOfWrongFalsely : Prop := fnExactPrintOfRow.holds Try.pinned (OpenSpec.ofChange fnExactPrintOfWrong)

/-- 'laws.FnExactPrintPair': WHATEVER THE INPUT: true; the input reads as it did. -/
def fnExactPrintPairSpec : ChangeSpec := { name := "fnExactPrintPair", fn := fun _ => fun
  | [d1, d2] => { results := [.lit (.bool true)], args := [d1, d2] }
  | _ => none }
def fnExactPrintPairRow : OpenClaim := { program := "ytlmbieaoenpeiaa", sum := "88c10542ef244725d265b59d3b58bb02b3589bb60fe99e3dab4c5d0aee37ac22", func := "loop.example/proofarchive/laws.FnExactPrintPair", spec := "fnExactPrintPair", apart := false }
def FnExactPrintPairSaid : Prop := fnExactPrintPairRow.holds Try.pinned (OpenSpec.ofChange fnExactPrintPairSpec)

/-- ITS FALSE NEIGHBOUR: 'it returns false'. Refute it at one input. -/
def fnExactPrintPairWrong : ChangeSpec := { name := "fnExactPrintPair", fn := fun _ => fun
  | [d1, d2] => { results := [.lit (.bool false)], args := [d1, d2] }
  | _ => none }
def FnExactPrintPairWrongFalsely : Prop := fnExactPrintPairRow.holds Try.pinned (OpenSpec.ofChange fnExactPrintPairWrong)

/-- 'laws.FnExactPrintList': WHATEVER THE INPUT: true; the input reads as it did. -/
def fnExactPrintListSpec : ChangeSpec := { name := "fnExactPrintList", fn := fun _ => fun
  | [d] => { results := [.lit (.bool true)], args := [d] }
  | _ => none }
def fnExactPrintListRow : OpenClaim := { program := "ytlmbieaoenpeiaa", sum := "88c10542ef244725d265b59d3b58bb02b3589bb60fe99e3dab4c5d0aee37ac22", func := "loop.example/proofarchive/laws.FnExactPrintList", spec := "fnExactPrintList", apart := false }
def FnExactPrintListSaid : Prop := fnExactPrintListRow.holds Try.pinned (OpenSpec.ofChange fnExactPrintListSpec)

/-- ITS FALSE NEIGHBOUR: 'it returns false'. Refute it at one input. -/
def fnExactPrintListWrong : ChangeSpec := { name := "fnExactPrintList", fn := fun _ => fun
  | [d] => { results := [.lit (.bool false)], args := [d] }
  | _ => none }
def FnExactPrintListWrongFalsely : Prop := fnExactPrintListRow.holds Try.pinned (OpenSpec.ofChange fnExactPrintListWrong)

/- THE SECOND FORM. 'bulk': how many values and letters a reading holds, each counted each time it is reached (what is shared counts as often as it is met; a slice's spare places count too). A statement '..UptoSaid' is the law's where the arguments, and the package variables that the reading takes, are together of bulk at most 1048576: NARROWER than '..Said'. Prove '..Said' where nothing that the law and all that it calls make is longer than what came in: it says more and counts as full. Else prove '..UptoSaid'. A law counts once. -/
mutual
def uptoBulk {H : Type} : DataW H → Nat
  | .lit (.string bytes) => bytes.length + 1
  | .lit _ => 1
  | .nil => 1
  | .ptr d => uptoBulk d + 1
  | .slice elems spare => uptoBulkAll elems + uptoBulkAll spare + 1
  | .agg parts => uptoBulkAll parts + 1
  | .iface _ d => uptoBulk d + 1
  | .map entries => uptoBulkEntries entries + 1
  | .held _ => 1
def uptoBulkAll {H : Type} : List (DataW H) → Nat
  | [] => 0
  | d :: r => uptoBulk d + uptoBulkAll r
def uptoBulkEntries {H : Type} : List (Lit × DataW H) → Nat
  | [] => 0
  | x :: r => uptoBulkEntry x + uptoBulkEntries r
def uptoBulkEntry {H : Type} : Lit × DataW H → Nat
  | (.string bytes, d) => bytes.length + uptoBulk d + 1
  | (_, d) => uptoBulk d + 1
 end
def uptoSmall : (H : Type) → List (DataW H) → Bool := fun _ ds => decide (uptoBulkAll ds ≤ 1048576)
def OpenSpec.upto (s : _root_.Go.ChangeSpec) : _root_.Go.OpenSpec := { _root_.Go.OpenSpec.ofChange s with cond := some uptoSmall }

/-- 'laws.FnPrintOf', WHERE WHAT IT READS IS OF BULK AT MOST 1048576: true; the input reads as it did. -/
def fnPrintOfUptoRow : OpenClaim := { program := "ytlmbieaoenpeiaa", sum := "88c10542ef244725d265b59d3b58bb02b3589bb60fe99e3dab4c5d0aee37ac22", func := "loop.example/proofarchive/laws.FnPrintOf", spec := "fnPrintOf", apart := false, narrowed := true }
def FnPrintOfUptoSaid : Prop := fnPrintOfUptoRow.holds Try.pinned (OpenSpec.upto fnPrintOfSpec)

/-- 'laws.FnPrintPair', WHERE WHAT IT READS IS OF BULK AT MOST 1048576: true; the input reads as it did. -/
def fnPrintPairUptoRow : OpenClaim := { program := "ytlmbieaoenpeiaa", sum := "88c10542ef244725d265b59d3b58bb02b3589bb60fe99e3dab4c5d0aee37ac22", func := "loop.example/proofarchive/laws.FnPrintPair", spec := "fnPrintPair", apart := false, narrowed := true }
def FnPrintPairUptoSaid : Prop := fnPrintPairUptoRow.holds Try.pinned (OpenSpec.upto fnPrintPairSpec)

/-- 'laws.FnPrintList', WHERE WHAT IT READS IS OF BULK AT MOST 1048576: true; the input reads as it did. -/
def fnPrintListUptoRow : OpenClaim := { program := "ytlmbieaoenpeiaa", sum := "88c10542ef244725d265b59d3b58bb02b3589bb60fe99e3dab4c5d0aee37ac22", func := "loop.example/proofarchive/laws.FnPrintList", spec := "fnPrintList", apart := false, narrowed := true }
def FnPrintListUptoSaid : Prop := fnPrintListUptoRow.holds Try.pinned (OpenSpec.upto fnPrintListSpec)

/-- 'laws.FnExactPrintOf', WHERE WHAT IT READS IS OF BULK AT MOST 1048576: true; the input reads as it did. -/
def fnExactPrintOfUptoRow : OpenClaim := { program := "ytlmbieaoenpeiaa", sum := "88c10542ef244725d265b59d3b58bb02b3589bb60fe99e3dab4c5d0aee37ac22", func := "loop.example/proofarchive/laws.FnExactPrintOf", spec := "fnExactPrintOf", apart := false, narrowed := true }
def FnExactPrintOfUptoSaid : Prop := fnExactPrintOfUptoRow.holds Try.pinned (OpenSpec.upto fnExactPrintOfSpec)

/-- 'laws.FnExactPrintPair', WHERE WHAT IT READS IS OF BULK AT MOST 1048576: true; the input reads as it did. -/
def fnExactPrintPairUptoRow : OpenClaim := { program := "ytlmbieaoenpeiaa", sum := "88c10542ef244725d265b59d3b58bb02b3589bb60fe99e3dab4c5d0aee37ac22", func := "loop.example/proofarchive/laws.FnExactPrintPair", spec := "fnExactPrintPair", apart := false, narrowed := true }
def FnExactPrintPairUptoSaid : Prop := fnExactPrintPairUptoRow.holds Try.pinned (OpenSpec.upto fnExactPrintPairSpec)

/-- 'laws.FnExactPrintList', WHERE WHAT IT READS IS OF BULK AT MOST 1048576: true; the input reads as it did. -/
def fnExactPrintListUptoRow : OpenClaim := { program := "ytlmbieaoenpeiaa", sum := "88c10542ef244725d265b59d3b58bb02b3589bb60fe99e3dab4c5d0aee37ac22", func := "loop.example/proofarchive/laws.FnExactPrintList", spec := "fnExactPrintList", apart := false, narrowed := true }
def FnExactPrintListUptoSaid : Prop := fnExactPrintListUptoRow.holds Try.pinned (OpenSpec.upto fnExactPrintListSpec)

end Rows
end Go.Proofs.Ytlmbieaoenpeiaa
