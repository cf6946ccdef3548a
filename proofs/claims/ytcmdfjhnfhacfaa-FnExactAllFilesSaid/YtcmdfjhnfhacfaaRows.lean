/-
  No cell of these rows narrows 'for every input' (looked for: loops, veiled, ifaces, maps, wideKeys, modest, calm, conditions, laid).
  DERIVED. THE GIVEN ROWS OF THIS SEAT. 2 by the template 'for every input the law returns true; each argument reads behind the call as it read before'; 0 by the template 'total and deterministic' (their statements: YtcmdfjhnfhacfaaTotals.lean).
  GIVEN WITH THE SEED: the statements are not yours to turn. If you find one false, say at which input.
  Laid BY PROGRAM, IN A SANDBOX (cutbox-rows.mjs): the forced cells as the released guide's own fill.sh prints them over the translation a8a139a0be1ee696… (all of the seat's roots in one cut). By AI agents, Wed Nov 11 2026. No macro, syntax, notation, axiom, sorry.
-/
import Derived.Test.YtcmdfjhnfhacfaaChecked
import GoSem.Claim
import GoSem.ClaimJoined
import GoSem.ClaimMapViews
import Derived.JoinedTies
import Derived.KernelRfl
namespace Go.Proofs.Ytcmdfjhnfhacfaa
/- THE CELL 'sum', in the pinned program and in every row, IS THE sha256 OF THE DUMP (.gsa) THAT YtcmdfjhnfhacfaaProg.lean LOADS. Nothing in Lean hashes anything: it is a label: what it is worth is what the hold of that sum in a sandbox is worth. -/
noncomputable def Try.pinned : Pinned := { name := "ytcmdfjhnfhacfaa", sum := "a8a139a0be1ee696dd8c7b43a6905be2c7ba2f7783cd0afef78f6c9b23ab5812", checked := Try.checked }
namespace Rows
def none {H : Type} : Left H := { results := [], args := [] }

/-- 'laws.FnExactAllFiles': WHATEVER THE INPUT: true; the input reads as it did. -/
def fnExactAllFilesSpec : ChangeSpec := { name := "fnExactAllFiles", fn := fun _ => fun
  | [d1, d2] => { results := [.lit (.bool true)], args := [d1, d2] }
  | _ => none }
def fnExactAllFilesRow : OpenClaim := { program := "ytcmdfjhnfhacfaa", sum := "a8a139a0be1ee696dd8c7b43a6905be2c7ba2f7783cd0afef78f6c9b23ab5812", func := "loop.example/proofarchive/laws.FnExactAllFiles", spec := "fnExactAllFiles", inPlace := ["internal/bytealg.IndexByteString", "internal/bytealg.IndexString"], unfollowed := true, recurses := true, named := ["internal/bytealg.MaxLen"], apart := false }
def FnExactAllFilesSaid : Prop := fnExactAllFilesRow.holds Try.pinned (OpenSpec.ofChange fnExactAllFilesSpec)

/-- ITS FALSE NEIGHBOUR: 'it returns false'. Refute it at one input. -/
def fnExactAllFilesWrong : ChangeSpec := { name := "fnExactAllFiles", fn := fun _ => fun
  | [d1, d2] => { results := [.lit (.bool false)], args := [d1, d2] }
  | _ => none }
def FnExactAllFilesWrongFalsely : Prop := fnExactAllFilesRow.holds Try.pinned (OpenSpec.ofChange fnExactAllFilesWrong)

/-- 'laws.FnExactFilesNamed': WHATEVER THE INPUT: true; the input reads as it did. -/
def fnExactFilesNamedSpec : ChangeSpec := { name := "fnExactFilesNamed", fn := fun _ => fun
  | [d1, d2, d3] => { results := [.lit (.bool true)], args := [d1, d2, d3] }
  | _ => none }
def fnExactFilesNamedRow : OpenClaim := { program := "ytcmdfjhnfhacfaa", sum := "a8a139a0be1ee696dd8c7b43a6905be2c7ba2f7783cd0afef78f6c9b23ab5812", func := "loop.example/proofarchive/laws.FnExactFilesNamed", spec := "fnExactFilesNamed", inPlace := ["internal/bytealg.IndexByteString", "internal/bytealg.IndexString"], unfollowed := true, recurses := true, named := ["internal/bytealg.MaxLen"], apart := false }
def FnExactFilesNamedSaid : Prop := fnExactFilesNamedRow.holds Try.pinned (OpenSpec.ofChange fnExactFilesNamedSpec)

/-- ITS FALSE NEIGHBOUR: 'it returns false'. Refute it at one input. -/
def fnExactFilesNamedWrong : ChangeSpec := { name := "fnExactFilesNamed", fn := fun _ => fun
  | [d1, d2, d3] => { results := [.lit (.bool false)], args := [d1, d2, d3] }
  | _ => none }
def FnExactFilesNamedWrongFalsely : Prop := fnExactFilesNamedRow.holds Try.pinned (OpenSpec.ofChange fnExactFilesNamedWrong)

/- THE SECOND FORM. 'bulk': how many values and letters a reading holds, each counted each time it is reached (what is shared counts as often as it is met; a slice's spare places count too). A statement '..UptoSaid' is the law's where the arguments, and the package variables that the reading takes, are together of bulk at most 1048576: NARROWER than '..Said'. Prove '..Said' where nothing that the law and all that it calls make is longer than what came in: it says more and counts as full. Else prove '..UptoSaid'. A law counts once. -/
mutual
def uptoBulk {H : Type} : DataW H → Nat
  | .lit (.string bytes) => bytes.length + 1
  | .lit _ => 1
  | .nil => 1
  | .ptr d => uptoBulk d + 1
  | .slice elems spare => uptoBulkAll elems + uptoBulkAll spare + 1
  | .agg parts => uptoBulkAll parts + 1
  | .iface _ d => uptoBulk d + 1
  | .map entries => uptoBulkEntries entries + 1
  | .held _ => 1
def uptoBulkAll {H : Type} : List (DataW H) → Nat
  | [] => 0
  | d :: r => uptoBulk d + uptoBulkAll r
def uptoBulkEntries {H : Type} : List (Lit × DataW H) → Nat
  | [] => 0
  | x :: r => uptoBulkEntry x + uptoBulkEntries r
def uptoBulkEntry {H : Type} : Lit × DataW H → Nat
  | (.string bytes, d) => bytes.length + uptoBulk d + 1
  | (_, d) => uptoBulk d + 1
 end
def uptoSmall : (H : Type) → List (DataW H) → Bool := fun _ ds => decide (uptoBulkAll ds ≤ 1048576)
def OpenSpec.upto (s : _root_.Go.ChangeSpec) : _root_.Go.OpenSpec := { _root_.Go.OpenSpec.ofChange s with cond := some uptoSmall }

/-- 'laws.FnExactAllFiles', WHERE WHAT IT READS IS OF BULK AT MOST 1048576: true; the input reads as it did. -/
def fnExactAllFilesUptoRow : OpenClaim := { program := "ytcmdfjhnfhacfaa", sum := "a8a139a0be1ee696dd8c7b43a6905be2c7ba2f7783cd0afef78f6c9b23ab5812", func := "loop.example/proofarchive/laws.FnExactAllFiles", spec := "fnExactAllFiles", inPlace := ["internal/bytealg.IndexByteString", "internal/bytealg.IndexString"], unfollowed := true, recurses := true, named := ["internal/bytealg.MaxLen"], apart := false, narrowed := true }
def FnExactAllFilesUptoSaid : Prop := fnExactAllFilesUptoRow.holds Try.pinned (OpenSpec.upto fnExactAllFilesSpec)

/-- 'laws.FnExactFilesNamed', WHERE WHAT IT READS IS OF BULK AT MOST 1048576: true; the input reads as it did. -/
def fnExactFilesNamedUptoRow : OpenClaim := { program := "ytcmdfjhnfhacfaa", sum := "a8a139a0be1ee696dd8c7b43a6905be2c7ba2f7783cd0afef78f6c9b23ab5812", func := "loop.example/proofarchive/laws.FnExactFilesNamed", spec := "fnExactFilesNamed", inPlace := ["internal/bytealg.IndexByteString", "internal/bytealg.IndexString"], unfollowed := true, recurses := true, named := ["internal/bytealg.MaxLen"], apart := false, narrowed := true }
def FnExactFilesNamedUptoSaid : Prop := fnExactFilesNamedUptoRow.holds Try.pinned (OpenSpec.upto fnExactFilesNamedSpec)

end Rows
end Go.Proofs.Ytcmdfjhnfhacfaa
