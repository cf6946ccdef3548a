/-
  No cell of these rows narrows 'for every input' (looked for: loops, veiled, ifaces, maps, wideKeys, modest, calm, conditions, laid).
  DERIVED. THE GIVEN ROWS OF THIS SEAT. 8 by the template 'for every input the law returns true; each argument reads behind the call as it read before'; 0 by the template 'total and deterministic' (their statements: YtiniadlpgomgjaaTotals.lean).
  GIVEN WITH THE SEED: the statements are not yours to turn. If you find one false, say at which input.
  Laid BY PROGRAM, IN A SANDBOX (cutbox-rows.mjs): the forced cells as the released guide's own fill.sh prints them over the translation 2602b389829f03d6… (all of the seat's roots in one cut). By AI agents, Wed Nov 11 2026. No macro, syntax, notation, axiom, sorry.
-/
import Derived.Test.YtiniadlpgomgjaaChecked
import GoSem.Claim
import GoSem.ClaimJoined
import GoSem.ClaimMapViews
import Derived.JoinedTies
import Derived.KernelRfl
namespace Go.Proofs.Ytiniadlpgomgjaa
/- THE CELL 'sum', in the pinned program and in every row, IS THE sha256 OF THE DUMP (.gsa) THAT YtiniadlpgomgjaaProg.lean LOADS. Nothing in Lean hashes anything: it is a label: what it is worth is what the hold of that sum in a sandbox is worth. -/
noncomputable def Try.pinned : Pinned := { name := "ytiniadlpgomgjaa", sum := "2602b389829f03d670ebdb9fad6de900268bdf94cf58230cf634e8faf0d0e411", checked := Try.checked }
namespace Rows
def none {H : Type} : Left H := { results := [], args := [] }

/-- 'laws.FnBranchesValid': WHATEVER THE INPUT: true; the input reads as it did. -/
def fnBranchesValidSpec : ChangeSpec := { name := "fnBranchesValid", fn := fun _ => fun
  | [d] => { results := [.lit (.bool true)], args := [d] }
  | _ => none }
def fnBranchesValidRow : OpenClaim := { program := "ytiniadlpgomgjaa", sum := "2602b389829f03d670ebdb9fad6de900268bdf94cf58230cf634e8faf0d0e411", func := "loop.example/proofarchive/laws.FnBranchesValid", spec := "fnBranchesValid", apart := false }
def FnBranchesValidSaid : Prop := fnBranchesValidRow.holds Try.pinned (OpenSpec.ofChange fnBranchesValidSpec)

/-- ITS FALSE NEIGHBOUR: 'it returns false'. Refute it at one input. -/
def fnBranchesValidWrong : ChangeSpec := { name := "fnBranchesValid", fn := fun _ => fun
  | [d] => { results := [.lit (.bool false)], args := [d] }
  | _ => none }
def FnBranchesValidWrongFalsely : Prop := fnBranchesValidRow.holds Try.pinned (OpenSpec.ofChange fnBranchesValidWrong)

/-- 'laws.FnSetBranch': WHATEVER THE INPUT: true; the input reads as it did. -/
def fnSetBranchSpec : ChangeSpec := { name := "fnSetBranch", fn := fun _ => fun
  | [d] => { results := [.lit (.bool true)], args := [d] }
  | _ => none }
def fnSetBranchRow : OpenClaim := { program := "ytiniadlpgomgjaa", sum := "2602b389829f03d670ebdb9fad6de900268bdf94cf58230cf634e8faf0d0e411", func := "loop.example/proofarchive/laws.FnSetBranch", spec := "fnSetBranch", inPlace := ["slices.overlaps[loop.example/proofarchive/impl.Branch]"], unfollowed := true, recurses := true, apart := false }
def FnSetBranchSaid : Prop := fnSetBranchRow.holds Try.pinned (OpenSpec.ofChange fnSetBranchSpec)

/-- ITS FALSE NEIGHBOUR: 'it returns false'. Refute it at one input. -/
def fnSetBranchWrong : ChangeSpec := { name := "fnSetBranch", fn := fun _ => fun
  | [d] => { results := [.lit (.bool false)], args := [d] }
  | _ => none }
def FnSetBranchWrongFalsely : Prop := fnSetBranchRow.holds Try.pinned (OpenSpec.ofChange fnSetBranchWrong)

/-- 'laws.FnBranchAt': WHATEVER THE INPUT: true; the input reads as it did. -/
def fnBranchAtSpec : ChangeSpec := { name := "fnBranchAt", fn := fun _ => fun
  | [d] => { results := [.lit (.bool true)], args := [d] }
  | _ => none }
def fnBranchAtRow : OpenClaim := { program := "ytiniadlpgomgjaa", sum := "2602b389829f03d670ebdb9fad6de900268bdf94cf58230cf634e8faf0d0e411", func := "loop.example/proofarchive/laws.FnBranchAt", spec := "fnBranchAt", unfollowed := true, recurses := true, apart := false }
def FnBranchAtSaid : Prop := fnBranchAtRow.holds Try.pinned (OpenSpec.ofChange fnBranchAtSpec)

/-- ITS FALSE NEIGHBOUR: 'it returns false'. Refute it at one input. -/
def fnBranchAtWrong : ChangeSpec := { name := "fnBranchAt", fn := fun _ => fun
  | [d] => { results := [.lit (.bool false)], args := [d] }
  | _ => none }
def FnBranchAtWrongFalsely : Prop := fnBranchAtRow.holds Try.pinned (OpenSpec.ofChange fnBranchAtWrong)

/-- 'laws.FnDropBranch': WHATEVER THE INPUT: true; the input reads as it did. -/
def fnDropBranchSpec : ChangeSpec := { name := "fnDropBranch", fn := fun _ => fun
  | [d] => { results := [.lit (.bool true)], args := [d] }
  | _ => none }
def fnDropBranchRow : OpenClaim := { program := "ytiniadlpgomgjaa", sum := "2602b389829f03d670ebdb9fad6de900268bdf94cf58230cf634e8faf0d0e411", func := "loop.example/proofarchive/laws.FnDropBranch", spec := "fnDropBranch", unfollowed := true, recurses := true, apart := false }
def FnDropBranchSaid : Prop := fnDropBranchRow.holds Try.pinned (OpenSpec.ofChange fnDropBranchSpec)

/-- ITS FALSE NEIGHBOUR: 'it returns false'. Refute it at one input. -/
def fnDropBranchWrong : ChangeSpec := { name := "fnDropBranch", fn := fun _ => fun
  | [d] => { results := [.lit (.bool false)], args := [d] }
  | _ => none }
def FnDropBranchWrongFalsely : Prop := fnDropBranchRow.holds Try.pinned (OpenSpec.ofChange fnDropBranchWrong)

/-- 'laws.FnExactBranchesValid': WHATEVER THE INPUT: true; the input reads as it did. -/
def fnExactBranchesValidSpec : ChangeSpec := { name := "fnExactBranchesValid", fn := fun _ => fun
  | [d1, d2] => { results := [.lit (.bool true)], args := [d1, d2] }
  | _ => none }
def fnExactBranchesValidRow : OpenClaim := { program := "ytiniadlpgomgjaa", sum := "2602b389829f03d670ebdb9fad6de900268bdf94cf58230cf634e8faf0d0e411", func := "loop.example/proofarchive/laws.FnExactBranchesValid", spec := "fnExactBranchesValid", apart := false }
def FnExactBranchesValidSaid : Prop := fnExactBranchesValidRow.holds Try.pinned (OpenSpec.ofChange fnExactBranchesValidSpec)

/-- ITS FALSE NEIGHBOUR: 'it returns false'. Refute it at one input. -/
def fnExactBranchesValidWrong : ChangeSpec := { name := "fnExactBranchesValid", fn := fun _ => fun
  | [d1, d2] => { results := [.lit (.bool false)], args := [d1, d2] }
  | _ => none }
def FnExactBranchesValidWrongFalsely : Prop := fnExactBranchesValidRow.holds Try.pinned (OpenSpec.ofChange fnExactBranchesValidWrong)

/-- 'laws.FnExactSetBranch': WHATEVER THE INPUT: true; the input reads as it did. -/
def fnExactSetBranchSpec : ChangeSpec := { name := "fnExactSetBranch", fn := fun _ => fun
  | [d1, d2, d3] => { results := [.lit (.bool true)], args := [d1, d2, d3] }
  | _ => none }
def fnExactSetBranchRow : OpenClaim := { program := "ytiniadlpgomgjaa", sum := "2602b389829f03d670ebdb9fad6de900268bdf94cf58230cf634e8faf0d0e411", func := "loop.example/proofarchive/laws.FnExactSetBranch", spec := "fnExactSetBranch", inPlace := ["slices.overlaps[loop.example/proofarchive/impl.Branch]"], unfollowed := true, recurses := true, apart := false }
def FnExactSetBranchSaid : Prop := fnExactSetBranchRow.holds Try.pinned (OpenSpec.ofChange fnExactSetBranchSpec)

/-- ITS FALSE NEIGHBOUR: 'it returns false'. Refute it at one input. -/
def fnExactSetBranchWrong : ChangeSpec := { name := "fnExactSetBranch", fn := fun _ => fun
  | [d1, d2, d3] => { results := [.lit (.bool false)], args := [d1, d2, d3] }
  | _ => none }
def FnExactSetBranchWrongFalsely : Prop := fnExactSetBranchRow.holds Try.pinned (OpenSpec.ofChange fnExactSetBranchWrong)

/-- 'laws.FnExactBranchAt': WHATEVER THE INPUT: true; the input reads as it did. -/
def fnExactBranchAtSpec : ChangeSpec := { name := "fnExactBranchAt", fn := fun _ => fun
  | [d1, d2, d3] => { results := [.lit (.bool true)], args := [d1, d2, d3] }
  | _ => none }
def fnExactBranchAtRow : OpenClaim := { program := "ytiniadlpgomgjaa", sum := "2602b389829f03d670ebdb9fad6de900268bdf94cf58230cf634e8faf0d0e411", func := "loop.example/proofarchive/laws.FnExactBranchAt", spec := "fnExactBranchAt", unfollowed := true, recurses := true, apart := false }
def FnExactBranchAtSaid : Prop := fnExactBranchAtRow.holds Try.pinned (OpenSpec.ofChange fnExactBranchAtSpec)

/-- ITS FALSE NEIGHBOUR: 'it returns false'. Refute it at one input. -/
def fnExactBranchAtWrong : ChangeSpec := { name := "fnExactBranchAt", fn := fun _ => fun
  | [d1, d2, d3] => { results := [.lit (.bool false)], args := [d1, d2, d3] }
  | _ => none }
def FnExactBranchAtWrongFalsely : Prop := fnExactBranchAtRow.holds Try.pinned (OpenSpec.ofChange fnExactBranchAtWrong)

/-- 'laws.FnExactDropBranch': WHATEVER THE INPUT: true; the input reads as it did. -/
def fnExactDropBranchSpec : ChangeSpec := { name := "fnExactDropBranch", fn := fun _ => fun
  | [d1, d2, d3] => { results := [.lit (.bool true)], args := [d1, d2, d3] }
  | _ => none }
def fnExactDropBranchRow : OpenClaim := { program := "ytiniadlpgomgjaa", sum := "2602b389829f03d670ebdb9fad6de900268bdf94cf58230cf634e8faf0d0e411", func := "loop.example/proofarchive/laws.FnExactDropBranch", spec := "fnExactDropBranch", unfollowed := true, recurses := true, apart := false }
def FnExactDropBranchSaid : Prop := fnExactDropBranchRow.holds Try.pinned (OpenSpec.ofChange fnExactDropBranchSpec)

/-- ITS FALSE NEIGHBOUR: 'it returns false'. Refute it at one input. -/
def fnExactDropBranchWrong : ChangeSpec := { name := "fnExactDropBranch", fn := fun _ => fun
  | [d1, d2, d3] => { results := [.lit (.bool false)], args := [d1, d2, d3] }
  | _ => none }
def FnExactDropBranchWrongFalsely : Prop := fnExactDropBranchRow.holds Try.pinned (OpenSpec.ofChange fnExactDropBranchWrong)

/- THE SECOND FORM. 'bulk': how many values and letters a reading holds, each counted each time it is reached (what is shared counts as often as it is met; a slice's spare places count too). A statement '..UptoSaid' is the law's where the arguments, and the package variables that the reading takes, are together of bulk at most 1048576: NARROWER than '..Said'. Prove '..Said' where nothing that the law and all that it calls make is longer than what came in: it says more and counts as full. Else prove '..UptoSaid'. A law counts once. -/
mutual
def uptoBulk {H : Type} : DataW H → Nat
  | .lit (.string bytes) => bytes.length + 1
  | .lit _ => 1
  | .nil => 1
  | .ptr d => uptoBulk d + 1
  | .slice elems spare => uptoBulkAll elems + uptoBulkAll spare + 1
  | .agg parts => uptoBulkAll parts + 1
  | .iface _ d => uptoBulk d + 1
  | .map entries => uptoBulkEntries entries + 1
  | .held _ => 1
def uptoBulkAll {H : Type} : List (DataW H) → Nat
  | [] => 0
  | d :: r => uptoBulk d + uptoBulkAll r
def uptoBulkEntries {H : Type} : List (Lit × DataW H) → Nat
  | [] => 0
  | x :: r => uptoBulkEntry x + uptoBulkEntries r
def uptoBulkEntry {H : Type} : Lit × DataW H → Nat
  | (.string bytes, d) => bytes.length + uptoBulk d + 1
  | (_, d) => uptoBulk d + 1
 end
def uptoSmall : (H : Type) → List (DataW H) → Bool := fun _ ds => decide (uptoBulkAll ds ≤ 1048576)
def OpenSpec.upto (s : _root_.Go.ChangeSpec) : _root_.Go.OpenSpec := { _root_.Go.OpenSpec.ofChange s with cond := some uptoSmall }

/-- 'laws.FnBranchesValid', WHERE WHAT IT READS IS OF BULK AT MOST 1048576: true; the input reads as it did. -/
def fnBranchesValidUptoRow : OpenClaim := { program := "ytiniadlpgomgjaa", sum := "2602b389829f03d670ebdb9fad6de900268bdf94cf58230cf634e8faf0d0e411", func := "loop.example/proofarchive/laws.FnBranchesValid", spec := "fnBranchesValid", apart := false, narrowed := true }
def FnBranchesValidUptoSaid : Prop := fnBranchesValidUptoRow.holds Try.pinned (OpenSpec.upto fnBranchesValidSpec)

/-- 'laws.FnSetBranch', WHERE WHAT IT READS IS OF BULK AT MOST 1048576: true; the input reads as it did. -/
def fnSetBranchUptoRow : OpenClaim := { program := "ytiniadlpgomgjaa", sum := "2602b389829f03d670ebdb9fad6de900268bdf94cf58230cf634e8faf0d0e411", func := "loop.example/proofarchive/laws.FnSetBranch", spec := "fnSetBranch", inPlace := ["slices.overlaps[loop.example/proofarchive/impl.Branch]"], unfollowed := true, recurses := true, apart := false, narrowed := true }
def FnSetBranchUptoSaid : Prop := fnSetBranchUptoRow.holds Try.pinned (OpenSpec.upto fnSetBranchSpec)

/-- 'laws.FnBranchAt', WHERE WHAT IT READS IS OF BULK AT MOST 1048576: true; the input reads as it did. -/
def fnBranchAtUptoRow : OpenClaim := { program := "ytiniadlpgomgjaa", sum := "2602b389829f03d670ebdb9fad6de900268bdf94cf58230cf634e8faf0d0e411", func := "loop.example/proofarchive/laws.FnBranchAt", spec := "fnBranchAt", unfollowed := true, recurses := true, apart := false, narrowed := true }
def FnBranchAtUptoSaid : Prop := fnBranchAtUptoRow.holds Try.pinned (OpenSpec.upto fnBranchAtSpec)

/-- 'laws.FnDropBranch', WHERE WHAT IT READS IS OF BULK AT MOST 1048576: true; the input reads as it did. -/
def fnDropBranchUptoRow : OpenClaim := { program := "ytiniadlpgomgjaa", sum := "2602b389829f03d670ebdb9fad6de900268bdf94cf58230cf634e8faf0d0e411", func := "loop.example/proofarchive/laws.FnDropBranch", spec := "fnDropBranch", unfollowed := true, recurses := true, apart := false, narrowed := true }
def FnDropBranchUptoSaid : Prop := fnDropBranchUptoRow.holds Try.pinned (OpenSpec.upto fnDropBranchSpec)

/-- 'laws.FnExactBranchesValid', WHERE WHAT IT READS IS OF BULK AT MOST 1048576: true; the input reads as it did. -/
def fnExactBranchesValidUptoRow : OpenClaim := { program := "ytiniadlpgomgjaa", sum := "2602b389829f03d670ebdb9fad6de900268bdf94cf58230cf634e8faf0d0e411", func := "loop.example/proofarchive/laws.FnExactBranchesValid", spec := "fnExactBranchesValid", apart := false, narrowed := true }
def FnExactBranchesValidUptoSaid : Prop := fnExactBranchesValidUptoRow.holds Try.pinned (OpenSpec.upto fnExactBranchesValidSpec)

/-- 'laws.FnExactSetBranch', WHERE WHAT IT READS IS OF BULK AT MOST 1048576: true; the input reads as it did. -/
def fnExactSetBranchUptoRow : OpenClaim := { program := "ytiniadlpgomgjaa", sum := "2602b389829f03d670ebdb9fad6de900268bdf94cf58230cf634e8faf0d0e411", func := "loop.example/proofarchive/laws.FnExactSetBranch", spec := "fnExactSetBranch", inPlace := ["slices.overlaps[loop.example/proofarchive/impl.Branch]"], unfollowed := true, recurses := true, apart := false, narrowed := true }
def FnExactSetBranchUptoSaid : Prop := fnExactSetBranchUptoRow.holds Try.pinned (OpenSpec.upto fnExactSetBranchSpec)

/-- 'laws.FnExactBranchAt', WHERE WHAT IT READS IS OF BULK AT MOST 1048576: true; the input reads as it did. -/
def fnExactBranchAtUptoRow : OpenClaim := { program := "ytiniadlpgomgjaa", sum := "2602b389829f03d670ebdb9fad6de900268bdf94cf58230cf634e8faf0d0e411", func := "loop.example/proofarchive/laws.FnExactBranchAt", spec := "fnExactBranchAt", unfollowed := true, recurses := true, apart := false, narrowed := true }
def FnExactBranchAtUptoSaid : Prop := fnExactBranchAtUptoRow.holds Try.pinned (OpenSpec.upto fnExactBranchAtSpec)

/-- 'laws.FnExactDropBranch', WHERE WHAT IT READS IS OF BULK AT MOST 1048576: true; the input reads as it did. -/
def fnExactDropBranchUptoRow : OpenClaim := { program := "ytiniadlpgomgjaa", sum := "2602b389829f03d670ebdb9fad6de900268bdf94cf58230cf634e8faf0d0e411", func := "loop.example/proofarchive/laws.FnExactDropBranch", spec := "fnExactDropBranch", unfollowed := true, recurses := true, apart := false, narrowed := true }
def FnExactDropBranchUptoSaid : Prop := fnExactDropBranchUptoRow.holds Try.pinned (OpenSpec.upto fnExactDropBranchSpec)

end Rows
end Go.Proofs.Ytiniadlpgomgjaa
