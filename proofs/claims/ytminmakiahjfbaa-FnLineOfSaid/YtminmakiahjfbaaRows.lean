/-
  No cell of these rows narrows 'for every input' (looked for: loops, veiled, ifaces, maps, wideKeys, modest, calm, conditions, laid).
  DERIVED. THE GIVEN ROWS OF THIS SEAT. 10 by the template 'for every input the law returns true; each argument reads behind the call as it read before'; 0 by the template 'total and deterministic' (their statements: YtminmakiahjfbaaTotals.lean).
  GIVEN WITH THE SEED: the statements are not yours to turn. If you find one false, say at which input.
  Laid BY PROGRAM, IN A SANDBOX (cutbox-rows.mjs): the forced cells as the released guide's own fill.sh prints them over the translation 0d35deeca19ba9f4… (all of the seat's roots in one cut). By AI agents, Wed Nov 11 2026. No macro, syntax, notation, axiom, sorry.
-/
import Derived.Test.YtminmakiahjfbaaChecked
import GoSem.Claim
import GoSem.ClaimJoined
import GoSem.ClaimMapViews
import Derived.JoinedTies
import Derived.KernelRfl
namespace Go.Proofs.Ytminmakiahjfbaa
/- THE CELL 'sum', in the pinned program and in every row, IS THE sha256 OF THE DUMP (.gsa) THAT YtminmakiahjfbaaProg.lean LOADS. Nothing in Lean hashes anything: it is a label: what it is worth is what the hold of that sum in a sandbox is worth. -/
noncomputable def Try.pinned : Pinned := { name := "ytminmakiahjfbaa", sum := "0d35deeca19ba9f409dffbcb52579f38821c8a42e0099cb7c361503864748eff", checked := Try.checked }
namespace Rows
def none {H : Type} : Left H := { results := [], args := [] }

/-- 'laws.FnVersionsValid': WHATEVER THE INPUT: true; the input reads as it did. -/
def fnVersionsValidSpec : ChangeSpec := { name := "fnVersionsValid", fn := fun _ => fun
  | [d] => { results := [.lit (.bool true)], args := [d] }
  | _ => none }
def fnVersionsValidRow : OpenClaim := { program := "ytminmakiahjfbaa", sum := "0d35deeca19ba9f409dffbcb52579f38821c8a42e0099cb7c361503864748eff", func := "loop.example/proofarchive/laws.FnVersionsValid", spec := "fnVersionsValid", apart := false }
def FnVersionsValidSaid : Prop := fnVersionsValidRow.holds Try.pinned (OpenSpec.ofChange fnVersionsValidSpec)

/-- ITS FALSE NEIGHBOUR: 'it returns false'. Refute it at one input. -/
def fnVersionsValidWrong : ChangeSpec := { name := "fnVersionsValid", fn := fun _ => fun
  | [d] => { results := [.lit (.bool false)], args := [d] }
  | _ => none }
def FnVersionsValidWrongFalsely : Prop := fnVersionsValidRow.holds Try.pinned (OpenSpec.ofChange fnVersionsValidWrong)

/-- 'laws.FnAddVersion': WHATEVER THE INPUT: true; the input reads as it did. -/
def fnAddVersionSpec : ChangeSpec := { name := "fnAddVersion", fn := fun _ => fun
  | [d] => { results := [.lit (.bool true)], args := [d] }
  | _ => none }
def fnAddVersionRow : OpenClaim := { program := "ytminmakiahjfbaa", sum := "0d35deeca19ba9f409dffbcb52579f38821c8a42e0099cb7c361503864748eff", func := "loop.example/proofarchive/laws.FnAddVersion", spec := "fnAddVersion", apart := false }
def FnAddVersionSaid : Prop := fnAddVersionRow.holds Try.pinned (OpenSpec.ofChange fnAddVersionSpec)

/-- ITS FALSE NEIGHBOUR: 'it returns false'. Refute it at one input. -/
def fnAddVersionWrong : ChangeSpec := { name := "fnAddVersion", fn := fun _ => fun
  | [d] => { results := [.lit (.bool false)], args := [d] }
  | _ => none }
def FnAddVersionWrongFalsely : Prop := fnAddVersionRow.holds Try.pinned (OpenSpec.ofChange fnAddVersionWrong)

/-- 'laws.FnLineOf': WHATEVER THE INPUT: true; the input reads as it did. -/
def fnLineOfSpec : ChangeSpec := { name := "fnLineOf", fn := fun _ => fun
  | [d] => { results := [.lit (.bool true)], args := [d] }
  | _ => none }
def fnLineOfRow : OpenClaim := { program := "ytminmakiahjfbaa", sum := "0d35deeca19ba9f409dffbcb52579f38821c8a42e0099cb7c361503864748eff", func := "loop.example/proofarchive/laws.FnLineOf", spec := "fnLineOf", apart := false }
def FnLineOfSaid : Prop := fnLineOfRow.holds Try.pinned (OpenSpec.ofChange fnLineOfSpec)

/-- ITS FALSE NEIGHBOUR: 'it returns false'. Refute it at one input. -/
def fnLineOfWrong : ChangeSpec := { name := "fnLineOf", fn := fun _ => fun
  | [d] => { results := [.lit (.bool false)], args := [d] }
  | _ => none }
def FnLineOfWrongFalsely : Prop := fnLineOfRow.holds Try.pinned (OpenSpec.ofChange fnLineOfWrong)

/-- 'laws.FnNearestBoth': WHATEVER THE INPUT: true; the input reads as it did. -/
def fnNearestBothSpec : ChangeSpec := { name := "fnNearestBoth", fn := fun _ => fun
  | [d] => { results := [.lit (.bool true)], args := [d] }
  | _ => none }
def fnNearestBothRow : OpenClaim := { program := "ytminmakiahjfbaa", sum := "0d35deeca19ba9f409dffbcb52579f38821c8a42e0099cb7c361503864748eff", func := "loop.example/proofarchive/laws.FnNearestBoth", spec := "fnNearestBoth", apart := false }
def FnNearestBothSaid : Prop := fnNearestBothRow.holds Try.pinned (OpenSpec.ofChange fnNearestBothSpec)

/-- ITS FALSE NEIGHBOUR: 'it returns false'. Refute it at one input. -/
def fnNearestBothWrong : ChangeSpec := { name := "fnNearestBoth", fn := fun _ => fun
  | [d] => { results := [.lit (.bool false)], args := [d] }
  | _ => none }
def FnNearestBothWrongFalsely : Prop := fnNearestBothRow.holds Try.pinned (OpenSpec.ofChange fnNearestBothWrong)

/-- 'laws.FnTipsOf': WHATEVER THE INPUT: true; the input reads as it did. -/
def fnTipsOfSpec : ChangeSpec := { name := "fnTipsOf", fn := fun _ => fun
  | [d] => { results := [.lit (.bool true)], args := [d] }
  | _ => none }
def fnTipsOfRow : OpenClaim := { program := "ytminmakiahjfbaa", sum := "0d35deeca19ba9f409dffbcb52579f38821c8a42e0099cb7c361503864748eff", func := "loop.example/proofarchive/laws.FnTipsOf", spec := "fnTipsOf", apart := false }
def FnTipsOfSaid : Prop := fnTipsOfRow.holds Try.pinned (OpenSpec.ofChange fnTipsOfSpec)

/-- ITS FALSE NEIGHBOUR: 'it returns false'. Refute it at one input. -/
def fnTipsOfWrong : ChangeSpec := { name := "fnTipsOf", fn := fun _ => fun
  | [d] => { results := [.lit (.bool false)], args := [d] }
  | _ => none }
def FnTipsOfWrongFalsely : Prop := fnTipsOfRow.holds Try.pinned (OpenSpec.ofChange fnTipsOfWrong)

/-- 'laws.FnExactVersionsValid': WHATEVER THE INPUT: true; the input reads as it did. -/
def fnExactVersionsValidSpec : ChangeSpec := { name := "fnExactVersionsValid", fn := fun _ => fun
  | [d] => { results := [.lit (.bool true)], args := [d] }
  | _ => none }
def fnExactVersionsValidRow : OpenClaim := { program := "ytminmakiahjfbaa", sum := "0d35deeca19ba9f409dffbcb52579f38821c8a42e0099cb7c361503864748eff", func := "loop.example/proofarchive/laws.FnExactVersionsValid", spec := "fnExactVersionsValid", apart := false }
def FnExactVersionsValidSaid : Prop := fnExactVersionsValidRow.holds Try.pinned (OpenSpec.ofChange fnExactVersionsValidSpec)

/-- ITS FALSE NEIGHBOUR: 'it returns false'. Refute it at one input. -/
def fnExactVersionsValidWrong : ChangeSpec := { name := "fnExactVersionsValid", fn := fun _ => fun
  | [d] => { results := [.lit (.bool false)], args := [d] }
  | _ => none }
def FnExactVersionsValidWrongFalsely : Prop := fnExactVersionsValidRow.holds Try.pinned (OpenSpec.ofChange fnExactVersionsValidWrong)

/-- 'laws.FnExactAddVersion': WHATEVER THE INPUT: true; the input reads as it did. -/
def fnExactAddVersionSpec : ChangeSpec := { name := "fnExactAddVersion", fn := fun _ => fun
  | [d1, d2] => { results := [.lit (.bool true)], args := [d1, d2] }
  | _ => none }
def fnExactAddVersionRow : OpenClaim := { program := "ytminmakiahjfbaa", sum := "0d35deeca19ba9f409dffbcb52579f38821c8a42e0099cb7c361503864748eff", func := "loop.example/proofarchive/laws.FnExactAddVersion", spec := "fnExactAddVersion", apart := false }
def FnExactAddVersionSaid : Prop := fnExactAddVersionRow.holds Try.pinned (OpenSpec.ofChange fnExactAddVersionSpec)

/-- ITS FALSE NEIGHBOUR: 'it returns false'. Refute it at one input. -/
def fnExactAddVersionWrong : ChangeSpec := { name := "fnExactAddVersion", fn := fun _ => fun
  | [d1, d2] => { results := [.lit (.bool false)], args := [d1, d2] }
  | _ => none }
def FnExactAddVersionWrongFalsely : Prop := fnExactAddVersionRow.holds Try.pinned (OpenSpec.ofChange fnExactAddVersionWrong)

/-- 'laws.FnExactLineOf': WHATEVER THE INPUT: true; the input reads as it did. -/
def fnExactLineOfSpec : ChangeSpec := { name := "fnExactLineOf", fn := fun _ => fun
  | [d1, d2] => { results := [.lit (.bool true)], args := [d1, d2] }
  | _ => none }
def fnExactLineOfRow : OpenClaim := { program := "ytminmakiahjfbaa", sum := "0d35deeca19ba9f409dffbcb52579f38821c8a42e0099cb7c361503864748eff", func := "loop.example/proofarchive/laws.FnExactLineOf", spec := "fnExactLineOf", apart := false }
def FnExactLineOfSaid : Prop := fnExactLineOfRow.holds Try.pinned (OpenSpec.ofChange fnExactLineOfSpec)

/-- ITS FALSE NEIGHBOUR: 'it returns false'. Refute it at one input. -/
def fnExactLineOfWrong : ChangeSpec := { name := "fnExactLineOf", fn := fun _ => fun
  | [d1, d2] => { results := [.lit (.bool false)], args := [d1, d2] }
  | _ => none }
def FnExactLineOfWrongFalsely : Prop := fnExactLineOfRow.holds Try.pinned (OpenSpec.ofChange fnExactLineOfWrong)

/-- 'laws.FnExactNearestBoth': WHATEVER THE INPUT: true; the input reads as it did. -/
def fnExactNearestBothSpec : ChangeSpec := { name := "fnExactNearestBoth", fn := fun _ => fun
  | [d1, d2, d3] => { results := [.lit (.bool true)], args := [d1, d2, d3] }
  | _ => none }
def fnExactNearestBothRow : OpenClaim := { program := "ytminmakiahjfbaa", sum := "0d35deeca19ba9f409dffbcb52579f38821c8a42e0099cb7c361503864748eff", func := "loop.example/proofarchive/laws.FnExactNearestBoth", spec := "fnExactNearestBoth", apart := false }
def FnExactNearestBothSaid : Prop := fnExactNearestBothRow.holds Try.pinned (OpenSpec.ofChange fnExactNearestBothSpec)

/-- ITS FALSE NEIGHBOUR: 'it returns false'. Refute it at one input. -/
def fnExactNearestBothWrong : ChangeSpec := { name := "fnExactNearestBoth", fn := fun _ => fun
  | [d1, d2, d3] => { results := [.lit (.bool false)], args := [d1, d2, d3] }
  | _ => none }
def FnExactNearestBothWrongFalsely : Prop := fnExactNearestBothRow.holds Try.pinned (OpenSpec.ofChange fnExactNearestBothWrong)

/-- 'laws.FnExactTipsOf': WHATEVER THE INPUT: true; the input reads as it did. -/
def fnExactTipsOfSpec : ChangeSpec := { name := "fnExactTipsOf", fn := fun _ => fun
  | [d] => { results := [.lit (.bool true)], args := [d] }
  | _ => none }
def fnExactTipsOfRow : OpenClaim := { program := "ytminmakiahjfbaa", sum := "0d35deeca19ba9f409dffbcb52579f38821c8a42e0099cb7c361503864748eff", func := "loop.example/proofarchive/laws.FnExactTipsOf", spec := "fnExactTipsOf", apart := false }
def FnExactTipsOfSaid : Prop := fnExactTipsOfRow.holds Try.pinned (OpenSpec.ofChange fnExactTipsOfSpec)

/-- ITS FALSE NEIGHBOUR: 'it returns false'. Refute it at one input. -/
def fnExactTipsOfWrong : ChangeSpec := { name := "fnExactTipsOf", fn := fun _ => fun
  | [d] => { results := [.lit (.bool false)], args := [d] }
  | _ => none }
def FnExactTipsOfWrongFalsely : Prop := fnExactTipsOfRow.holds Try.pinned (OpenSpec.ofChange fnExactTipsOfWrong)

/- THE SECOND FORM. 'bulk': how many values and letters a reading holds, each counted each time it is reached (what is shared counts as often as it is met; a slice's spare places count too). A statement '..UptoSaid' is the law's where the arguments, and the package variables that the reading takes, are together of bulk at most 1048576: NARROWER than '..Said'. Prove '..Said' where nothing that the law and all that it calls make is longer than what came in: it says more and counts as full. Else prove '..UptoSaid'. A law counts once. -/
mutual
def uptoBulk {H : Type} : DataW H → Nat
  | .lit (.string bytes) => bytes.length + 1
  | .lit _ => 1
  | .nil => 1
  | .ptr d => uptoBulk d + 1
  | .slice elems spare => uptoBulkAll elems + uptoBulkAll spare + 1
  | .agg parts => uptoBulkAll parts + 1
  | .iface _ d => uptoBulk d + 1
  | .map entries => uptoBulkEntries entries + 1
  | .held _ => 1
def uptoBulkAll {H : Type} : List (DataW H) → Nat
  | [] => 0
  | d :: r => uptoBulk d + uptoBulkAll r
def uptoBulkEntries {H : Type} : List (Lit × DataW H) → Nat
  | [] => 0
  | x :: r => uptoBulkEntry x + uptoBulkEntries r
def uptoBulkEntry {H : Type} : Lit × DataW H → Nat
  | (.string bytes, d) => bytes.length + uptoBulk d + 1
  | (_, d) => uptoBulk d + 1
 end
def uptoSmall : (H : Type) → List (DataW H) → Bool := fun _ ds => decide (uptoBulkAll ds ≤ 1048576)
def OpenSpec.upto (s : _root_.Go.ChangeSpec) : _root_.Go.OpenSpec := { _root_.Go.OpenSpec.ofChange s with cond := some uptoSmall }

/-- 'laws.FnVersionsValid', WHERE WHAT IT READS IS OF BULK AT MOST 1048576: true; the input reads as it did. -/
def fnVersionsValidUptoRow : OpenClaim := { program := "ytminmakiahjfbaa", sum := "0d35deeca19ba9f409dffbcb52579f38821c8a42e0099cb7c361503864748eff", func := "loop.example/proofarchive/laws.FnVersionsValid", spec := "fnVersionsValid", apart := false, narrowed := true }
def FnVersionsValidUptoSaid : Prop := fnVersionsValidUptoRow.holds Try.pinned (OpenSpec.upto fnVersionsValidSpec)

/-- 'laws.FnAddVersion', WHERE WHAT IT READS IS OF BULK AT MOST 1048576: true; the input reads as it did. -/
def fnAddVersionUptoRow : OpenClaim := { program := "ytminmakiahjfbaa", sum := "0d35deeca19ba9f409dffbcb52579f38821c8a42e0099cb7c361503864748eff", func := "loop.example/proofarchive/laws.FnAddVersion", spec := "fnAddVersion", apart := false, narrowed := true }
def FnAddVersionUptoSaid : Prop := fnAddVersionUptoRow.holds Try.pinned (OpenSpec.upto fnAddVersionSpec)

/-- 'laws.FnLineOf', WHERE WHAT IT READS IS OF BULK AT MOST 1048576: true; the input reads as it did. -/
def fnLineOfUptoRow : OpenClaim := { program := "ytminmakiahjfbaa", sum := "0d35deeca19ba9f409dffbcb52579f38821c8a42e0099cb7c361503864748eff", func := "loop.example/proofarchive/laws.FnLineOf", spec := "fnLineOf", apart := false, narrowed := true }
def FnLineOfUptoSaid : Prop := fnLineOfUptoRow.holds Try.pinned (OpenSpec.upto fnLineOfSpec)

/-- 'laws.FnNearestBoth', WHERE WHAT IT READS IS OF BULK AT MOST 1048576: true; the input reads as it did. -/
def fnNearestBothUptoRow : OpenClaim := { program := "ytminmakiahjfbaa", sum := "0d35deeca19ba9f409dffbcb52579f38821c8a42e0099cb7c361503864748eff", func := "loop.example/proofarchive/laws.FnNearestBoth", spec := "fnNearestBoth", apart := false, narrowed := true }
def FnNearestBothUptoSaid : Prop := fnNearestBothUptoRow.holds Try.pinned (OpenSpec.upto fnNearestBothSpec)

/-- 'laws.FnTipsOf', WHERE WHAT IT READS IS OF BULK AT MOST 1048576: true; the input reads as it did. -/
def fnTipsOfUptoRow : OpenClaim := { program := "ytminmakiahjfbaa", sum := "0d35deeca19ba9f409dffbcb52579f38821c8a42e0099cb7c361503864748eff", func := "loop.example/proofarchive/laws.FnTipsOf", spec := "fnTipsOf", apart := false, narrowed := true }
def FnTipsOfUptoSaid : Prop := fnTipsOfUptoRow.holds Try.pinned (OpenSpec.upto fnTipsOfSpec)

/-- 'laws.FnExactVersionsValid', WHERE WHAT IT READS IS OF BULK AT MOST 1048576: true; the input reads as it did. -/
def fnExactVersionsValidUptoRow : OpenClaim := { program := "ytminmakiahjfbaa", sum := "0d35deeca19ba9f409dffbcb52579f38821c8a42e0099cb7c361503864748eff", func := "loop.example/proofarchive/laws.FnExactVersionsValid", spec := "fnExactVersionsValid", apart := false, narrowed := true }
def FnExactVersionsValidUptoSaid : Prop := fnExactVersionsValidUptoRow.holds Try.pinned (OpenSpec.upto fnExactVersionsValidSpec)

/-- 'laws.FnExactAddVersion', WHERE WHAT IT READS IS OF BULK AT MOST 1048576: true; the input reads as it did. -/
def fnExactAddVersionUptoRow : OpenClaim := { program := "ytminmakiahjfbaa", sum := "0d35deeca19ba9f409dffbcb52579f38821c8a42e0099cb7c361503864748eff", func := "loop.example/proofarchive/laws.FnExactAddVersion", spec := "fnExactAddVersion", apart := false, narrowed := true }
def FnExactAddVersionUptoSaid : Prop := fnExactAddVersionUptoRow.holds Try.pinned (OpenSpec.upto fnExactAddVersionSpec)

/-- 'laws.FnExactLineOf', WHERE WHAT IT READS IS OF BULK AT MOST 1048576: true; the input reads as it did. -/
def fnExactLineOfUptoRow : OpenClaim := { program := "ytminmakiahjfbaa", sum := "0d35deeca19ba9f409dffbcb52579f38821c8a42e0099cb7c361503864748eff", func := "loop.example/proofarchive/laws.FnExactLineOf", spec := "fnExactLineOf", apart := false, narrowed := true }
def FnExactLineOfUptoSaid : Prop := fnExactLineOfUptoRow.holds Try.pinned (OpenSpec.upto fnExactLineOfSpec)

/-- 'laws.FnExactNearestBoth', WHERE WHAT IT READS IS OF BULK AT MOST 1048576: true; the input reads as it did. -/
def fnExactNearestBothUptoRow : OpenClaim := { program := "ytminmakiahjfbaa", sum := "0d35deeca19ba9f409dffbcb52579f38821c8a42e0099cb7c361503864748eff", func := "loop.example/proofarchive/laws.FnExactNearestBoth", spec := "fnExactNearestBoth", apart := false, narrowed := true }
def FnExactNearestBothUptoSaid : Prop := fnExactNearestBothUptoRow.holds Try.pinned (OpenSpec.upto fnExactNearestBothSpec)

/-- 'laws.FnExactTipsOf', WHERE WHAT IT READS IS OF BULK AT MOST 1048576: true; the input reads as it did. -/
def fnExactTipsOfUptoRow : OpenClaim := { program := "ytminmakiahjfbaa", sum := "0d35deeca19ba9f409dffbcb52579f38821c8a42e0099cb7c361503864748eff", func := "loop.example/proofarchive/laws.FnExactTipsOf", spec := "fnExactTipsOf", apart := false, narrowed := true }
def FnExactTipsOfUptoSaid : Prop := fnExactTipsOfUptoRow.holds Try.pinned (OpenSpec.upto fnExactTipsOfSpec)

end Rows
end Go.Proofs.Ytminmakiahjfbaa
