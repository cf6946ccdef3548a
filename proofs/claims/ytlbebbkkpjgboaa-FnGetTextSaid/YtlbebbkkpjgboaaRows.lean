/-
  No cell of these rows narrows 'for every input' (looked for: loops, veiled, ifaces, maps, wideKeys, modest, calm, conditions, laid).
  DERIVED. THE GIVEN ROWS OF THIS SEAT. 7 by the template 'for every input the law returns true; each argument reads behind the call as it read before'; 0 by the template 'total and deterministic' (their statements: YtlbebbkkpjgboaaTotals.lean).
  GIVEN WITH THE SEED: the statements are not yours to turn. If you find one false, say at which input.
  Laid BY PROGRAM, IN A SANDBOX (cutbox-rows.mjs): the forced cells as the released guide's own fill.sh prints them over the translation 53f2fc07fa9fd5d3… (all of the seat's roots in one cut). By AI agents, Wed Nov 11 2026. No macro, syntax, notation, axiom, sorry.
-/
import Derived.Test.YtlbebbkkpjgboaaChecked
import GoSem.Claim
import GoSem.ClaimJoined
import GoSem.ClaimMapViews
import Derived.JoinedTies
import Derived.KernelRfl
namespace Go.Proofs.Ytlbebbkkpjgboaa
/- THE CELL 'sum', in the pinned program and in every row, IS THE sha256 OF THE DUMP (.gsa) THAT YtlbebbkkpjgboaaProg.lean LOADS. Nothing in Lean hashes anything: it is a label: what it is worth is what the hold of that sum in a sandbox is worth. -/
noncomputable def Try.pinned : Pinned := { name := "ytlbebbkkpjgboaa", sum := "53f2fc07fa9fd5d361198b36289f31c6edc4e3b774b51060fcc9c19190aabfc4", checked := Try.checked }
namespace Rows
def none {H : Type} : Left H := { results := [], args := [] }

/-- 'laws.FnGetText': WHATEVER THE INPUT: true; the input reads as it did. -/
def fnGetTextSpec : ChangeSpec := { name := "fnGetText", fn := fun _ => fun
  | [d] => { results := [.lit (.bool true)], args := [d] }
  | _ => none }
def fnGetTextRow : OpenClaim := { program := "ytlbebbkkpjgboaa", sum := "53f2fc07fa9fd5d361198b36289f31c6edc4e3b774b51060fcc9c19190aabfc4", func := "loop.example/proofarchive/laws.FnGetText", spec := "fnGetText", unfollowed := true, recurses := true, apart := false }
def FnGetTextSaid : Prop := fnGetTextRow.holds Try.pinned (OpenSpec.ofChange fnGetTextSpec)

/-- ITS FALSE NEIGHBOUR: 'it returns false'. Refute it at one input. -/
def fnGetTextWrong : ChangeSpec := { name := "fnGetText", fn := fun _ => fun
  | [d] => { results := [.lit (.bool false)], args := [d] }
  | _ => none }
def FnGetTextWrongFalsely : Prop := fnGetTextRow.holds Try.pinned (OpenSpec.ofChange fnGetTextWrong)

/-- 'laws.FnTreeRoot': WHATEVER THE INPUT: true; the input reads as it did. -/
def fnTreeRootSpec : ChangeSpec := { name := "fnTreeRoot", fn := fun _ => fun
  | [d] => { results := [.lit (.bool true)], args := [d] }
  | _ => none }
def fnTreeRootRow : OpenClaim := { program := "ytlbebbkkpjgboaa", sum := "53f2fc07fa9fd5d361198b36289f31c6edc4e3b774b51060fcc9c19190aabfc4", func := "loop.example/proofarchive/laws.FnTreeRoot", spec := "fnTreeRoot", apart := false }
def FnTreeRootSaid : Prop := fnTreeRootRow.holds Try.pinned (OpenSpec.ofChange fnTreeRootSpec)

/-- ITS FALSE NEIGHBOUR: 'it returns false'. Refute it at one input. -/
def fnTreeRootWrong : ChangeSpec := { name := "fnTreeRoot", fn := fun _ => fun
  | [d] => { results := [.lit (.bool false)], args := [d] }
  | _ => none }
def FnTreeRootWrongFalsely : Prop := fnTreeRootRow.holds Try.pinned (OpenSpec.ofChange fnTreeRootWrong)

/-- 'laws.FnTreeProof': WHATEVER THE INPUT: true; the input reads as it did. -/
def fnTreeProofSpec : ChangeSpec := { name := "fnTreeProof", fn := fun _ => fun
  | [d] => { results := [.lit (.bool true)], args := [d] }
  | _ => none }
def fnTreeProofRow : OpenClaim := { program := "ytlbebbkkpjgboaa", sum := "53f2fc07fa9fd5d361198b36289f31c6edc4e3b774b51060fcc9c19190aabfc4", func := "loop.example/proofarchive/laws.FnTreeProof", spec := "fnTreeProof", apart := false }
def FnTreeProofSaid : Prop := fnTreeProofRow.holds Try.pinned (OpenSpec.ofChange fnTreeProofSpec)

/-- ITS FALSE NEIGHBOUR: 'it returns false'. Refute it at one input. -/
def fnTreeProofWrong : ChangeSpec := { name := "fnTreeProof", fn := fun _ => fun
  | [d] => { results := [.lit (.bool false)], args := [d] }
  | _ => none }
def FnTreeProofWrongFalsely : Prop := fnTreeProofRow.holds Try.pinned (OpenSpec.ofChange fnTreeProofWrong)

/-- 'laws.FnProofRoot': WHATEVER THE INPUT: true; the input reads as it did. -/
def fnProofRootSpec : ChangeSpec := { name := "fnProofRoot", fn := fun _ => fun
  | [d] => { results := [.lit (.bool true)], args := [d] }
  | _ => none }
def fnProofRootRow : OpenClaim := { program := "ytlbebbkkpjgboaa", sum := "53f2fc07fa9fd5d361198b36289f31c6edc4e3b774b51060fcc9c19190aabfc4", func := "loop.example/proofarchive/laws.FnProofRoot", spec := "fnProofRoot", apart := false }
def FnProofRootSaid : Prop := fnProofRootRow.holds Try.pinned (OpenSpec.ofChange fnProofRootSpec)

/-- ITS FALSE NEIGHBOUR: 'it returns false'. Refute it at one input. -/
def fnProofRootWrong : ChangeSpec := { name := "fnProofRoot", fn := fun _ => fun
  | [d] => { results := [.lit (.bool false)], args := [d] }
  | _ => none }
def FnProofRootWrongFalsely : Prop := fnProofRootRow.holds Try.pinned (OpenSpec.ofChange fnProofRootWrong)

/-- 'laws.FnExactTreeRoot': WHATEVER THE INPUT: true; the input reads as it did. -/
def fnExactTreeRootSpec : ChangeSpec := { name := "fnExactTreeRoot", fn := fun _ => fun
  | [d] => { results := [.lit (.bool true)], args := [d] }
  | _ => none }
def fnExactTreeRootRow : OpenClaim := { program := "ytlbebbkkpjgboaa", sum := "53f2fc07fa9fd5d361198b36289f31c6edc4e3b774b51060fcc9c19190aabfc4", func := "loop.example/proofarchive/laws.FnExactTreeRoot", spec := "fnExactTreeRoot", apart := false }
def FnExactTreeRootSaid : Prop := fnExactTreeRootRow.holds Try.pinned (OpenSpec.ofChange fnExactTreeRootSpec)

/-- ITS FALSE NEIGHBOUR: 'it returns false'. Refute it at one input. -/
def fnExactTreeRootWrong : ChangeSpec := { name := "fnExactTreeRoot", fn := fun _ => fun
  | [d] => { results := [.lit (.bool false)], args := [d] }
  | _ => none }
def FnExactTreeRootWrongFalsely : Prop := fnExactTreeRootRow.holds Try.pinned (OpenSpec.ofChange fnExactTreeRootWrong)

/-- 'laws.FnExactTreeProof': WHATEVER THE INPUT: true; the input reads as it did. -/
def fnExactTreeProofSpec : ChangeSpec := { name := "fnExactTreeProof", fn := fun _ => fun
  | [d1, d2] => { results := [.lit (.bool true)], args := [d1, d2] }
  | _ => none }
def fnExactTreeProofRow : OpenClaim := { program := "ytlbebbkkpjgboaa", sum := "53f2fc07fa9fd5d361198b36289f31c6edc4e3b774b51060fcc9c19190aabfc4", func := "loop.example/proofarchive/laws.FnExactTreeProof", spec := "fnExactTreeProof", apart := false }
def FnExactTreeProofSaid : Prop := fnExactTreeProofRow.holds Try.pinned (OpenSpec.ofChange fnExactTreeProofSpec)

/-- ITS FALSE NEIGHBOUR: 'it returns false'. Refute it at one input. -/
def fnExactTreeProofWrong : ChangeSpec := { name := "fnExactTreeProof", fn := fun _ => fun
  | [d1, d2] => { results := [.lit (.bool false)], args := [d1, d2] }
  | _ => none }
def FnExactTreeProofWrongFalsely : Prop := fnExactTreeProofRow.holds Try.pinned (OpenSpec.ofChange fnExactTreeProofWrong)

/-- 'laws.FnExactProofRoot': WHATEVER THE INPUT: true; the input reads as it did. -/
def fnExactProofRootSpec : ChangeSpec := { name := "fnExactProofRoot", fn := fun _ => fun
  | [d1, d2, d3, d4] => { results := [.lit (.bool true)], args := [d1, d2, d3, d4] }
  | _ => none }
def fnExactProofRootRow : OpenClaim := { program := "ytlbebbkkpjgboaa", sum := "53f2fc07fa9fd5d361198b36289f31c6edc4e3b774b51060fcc9c19190aabfc4", func := "loop.example/proofarchive/laws.FnExactProofRoot", spec := "fnExactProofRoot", apart := false }
def FnExactProofRootSaid : Prop := fnExactProofRootRow.holds Try.pinned (OpenSpec.ofChange fnExactProofRootSpec)

/-- ITS FALSE NEIGHBOUR: 'it returns false'. Refute it at one input. -/
def fnExactProofRootWrong : ChangeSpec := { name := "fnExactProofRoot", fn := fun _ => fun
  | [d1, d2, d3, d4] => { results := [.lit (.bool false)], args := [d1, d2, d3, d4] }
  | _ => none }
def FnExactProofRootWrongFalsely : Prop := fnExactProofRootRow.holds Try.pinned (OpenSpec.ofChange fnExactProofRootWrong)

/- THE SECOND FORM. 'bulk': how many values and letters a reading holds, each counted each time it is reached (what is shared counts as often as it is met; a slice's spare places count too). A statement '..UptoSaid' is the law's where the arguments, and the package variables that the reading takes, are together of bulk at most 1048576: NARROWER than '..Said'. Prove '..Said' where nothing that the law and all that it calls make is longer than what came in: it says more and counts as full. Else prove '..UptoSaid'. A law counts once. -/
mutual
def uptoBulk {H : Type} : DataW H → Nat
  | .lit (.string bytes) => bytes.length + 1
  | .lit _ => 1
  | .nil => 1
  | .ptr d => uptoBulk d + 1
  | .slice elems spare => uptoBulkAll elems + uptoBulkAll spare + 1
  | .agg parts => uptoBulkAll parts + 1
  | .iface _ d => uptoBulk d + 1
  | .map entries => uptoBulkEntries entries + 1
  | .held _ => 1
def uptoBulkAll {H : Type} : List (DataW H) → Nat
  | [] => 0
  | d :: r => uptoBulk d + uptoBulkAll r
def uptoBulkEntries {H : Type} : List (Lit × DataW H) → Nat
  | [] => 0
  | x :: r => uptoBulkEntry x + uptoBulkEntries r
def uptoBulkEntry {H : Type} : Lit × DataW H → Nat
  | (.string bytes, d) => bytes.length + uptoBulk d + 1
  | (_, d) => uptoBulk d + 1
 end
def uptoSmall : (H : Type) → List (DataW H) → Bool := fun _ ds => decide (uptoBulkAll ds ≤ 1048576)
def OpenSpec.upto (s : _root_.Go.ChangeSpec) : _root_.Go.OpenSpec := { _root_.Go.OpenSpec.ofChange s with cond := some uptoSmall }

/-- 'laws.FnGetText', WHERE WHAT IT READS IS OF BULK AT MOST 1048576: true; the input reads as it did. -/
def fnGetTextUptoRow : OpenClaim := { program := "ytlbebbkkpjgboaa", sum := "53f2fc07fa9fd5d361198b36289f31c6edc4e3b774b51060fcc9c19190aabfc4", func := "loop.example/proofarchive/laws.FnGetText", spec := "fnGetText", unfollowed := true, recurses := true, apart := false, narrowed := true }
def FnGetTextUptoSaid : Prop := fnGetTextUptoRow.holds Try.pinned (OpenSpec.upto fnGetTextSpec)

/-- 'laws.FnTreeRoot', WHERE WHAT IT READS IS OF BULK AT MOST 1048576: true; the input reads as it did. -/
def fnTreeRootUptoRow : OpenClaim := { program := "ytlbebbkkpjgboaa", sum := "53f2fc07fa9fd5d361198b36289f31c6edc4e3b774b51060fcc9c19190aabfc4", func := "loop.example/proofarchive/laws.FnTreeRoot", spec := "fnTreeRoot", apart := false, narrowed := true }
def FnTreeRootUptoSaid : Prop := fnTreeRootUptoRow.holds Try.pinned (OpenSpec.upto fnTreeRootSpec)

/-- 'laws.FnTreeProof', WHERE WHAT IT READS IS OF BULK AT MOST 1048576: true; the input reads as it did. -/
def fnTreeProofUptoRow : OpenClaim := { program := "ytlbebbkkpjgboaa", sum := "53f2fc07fa9fd5d361198b36289f31c6edc4e3b774b51060fcc9c19190aabfc4", func := "loop.example/proofarchive/laws.FnTreeProof", spec := "fnTreeProof", apart := false, narrowed := true }
def FnTreeProofUptoSaid : Prop := fnTreeProofUptoRow.holds Try.pinned (OpenSpec.upto fnTreeProofSpec)

/-- 'laws.FnProofRoot', WHERE WHAT IT READS IS OF BULK AT MOST 1048576: true; the input reads as it did. -/
def fnProofRootUptoRow : OpenClaim := { program := "ytlbebbkkpjgboaa", sum := "53f2fc07fa9fd5d361198b36289f31c6edc4e3b774b51060fcc9c19190aabfc4", func := "loop.example/proofarchive/laws.FnProofRoot", spec := "fnProofRoot", apart := false, narrowed := true }
def FnProofRootUptoSaid : Prop := fnProofRootUptoRow.holds Try.pinned (OpenSpec.upto fnProofRootSpec)

/-- 'laws.FnExactTreeRoot', WHERE WHAT IT READS IS OF BULK AT MOST 1048576: true; the input reads as it did. -/
def fnExactTreeRootUptoRow : OpenClaim := { program := "ytlbebbkkpjgboaa", sum := "53f2fc07fa9fd5d361198b36289f31c6edc4e3b774b51060fcc9c19190aabfc4", func := "loop.example/proofarchive/laws.FnExactTreeRoot", spec := "fnExactTreeRoot", apart := false, narrowed := true }
def FnExactTreeRootUptoSaid : Prop := fnExactTreeRootUptoRow.holds Try.pinned (OpenSpec.upto fnExactTreeRootSpec)

/-- 'laws.FnExactTreeProof', WHERE WHAT IT READS IS OF BULK AT MOST 1048576: true; the input reads as it did. -/
def fnExactTreeProofUptoRow : OpenClaim := { program := "ytlbebbkkpjgboaa", sum := "53f2fc07fa9fd5d361198b36289f31c6edc4e3b774b51060fcc9c19190aabfc4", func := "loop.example/proofarchive/laws.FnExactTreeProof", spec := "fnExactTreeProof", apart := false, narrowed := true }
def FnExactTreeProofUptoSaid : Prop := fnExactTreeProofUptoRow.holds Try.pinned (OpenSpec.upto fnExactTreeProofSpec)

/-- 'laws.FnExactProofRoot', WHERE WHAT IT READS IS OF BULK AT MOST 1048576: true; the input reads as it did. -/
def fnExactProofRootUptoRow : OpenClaim := { program := "ytlbebbkkpjgboaa", sum := "53f2fc07fa9fd5d361198b36289f31c6edc4e3b774b51060fcc9c19190aabfc4", func := "loop.example/proofarchive/laws.FnExactProofRoot", spec := "fnExactProofRoot", apart := false, narrowed := true }
def FnExactProofRootUptoSaid : Prop := fnExactProofRootUptoRow.holds Try.pinned (OpenSpec.upto fnExactProofRootSpec)

end Rows
end Go.Proofs.Ytlbebbkkpjgboaa
