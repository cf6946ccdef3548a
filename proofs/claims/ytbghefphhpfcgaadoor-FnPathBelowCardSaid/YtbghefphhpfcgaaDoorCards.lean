/-
  DERIVED. GIVEN WITH THE SEED: THE CARDS: each row of YtbghefphhpfcgaaDoorRows.lean that lists a variable, with what it lists TIED to the program's text (the seventh form; the later family's looks); each row that meets fmt, with fmt's text TOLD by the authors' own Lean function (tested against real Go, not proved from fmt's source: count such statements apart). THE CARD IS WHAT COUNTS. Prove the row's statement (the work); the ties are given (YtbghefphhpfcgaaDoorTie.lean); close each card by the builder's one call (the guide's Derived/Test/ToyasCard.lean, 'card_holds'). Laid BY PROGRAM, IN A SANDBOX (cutbox-door.mjs). By AI agents, Wed Nov 11 2026. No macro, syntax, notation, axiom, sorry.
-/
import Derived.Test.YtbghefphhpfcgaaDoorRows
import GoSem.ClaimSeven
namespace Go.Proofs.YtbghefphhpfcgaaDoor
namespace Rows

/-- THE TIED CARD OF 'laws.FnJoinPath'. -/
def fnJoinPathCard : Claim7 := { stood := { row := fnJoinPathRow, standIns := [], harness := (true, "f0fa8597cf08f150f5ea3bfa1a7527616131151d037ae2230c8cb64dafa7aaf1"), looks := false }, kinds := [], alts := [], laidByText := true, laidKinds := [.data, .pinned], laidTests := true, laidLooks := .later }
def FnJoinPathCardSaid : Prop := Claim7.holds Tryd.pinned (.plain (OpenSpec.ofChange fnJoinPathSpec)) fnJoinPathCard

/-- THE TIED CARD OF 'laws.FnPathParts'. -/
def fnPathPartsCard : Claim7 := { stood := { row := fnPathPartsRow, standIns := [], harness := (true, "f0fa8597cf08f150f5ea3bfa1a7527616131151d037ae2230c8cb64dafa7aaf1"), looks := false }, kinds := [], alts := [], laidByText := true, laidKinds := [.data, .pinned], laidTests := true, laidLooks := .later }
def FnPathPartsCardSaid : Prop := Claim7.holds Tryd.pinned (.plain (OpenSpec.ofChange fnPathPartsSpec)) fnPathPartsCard

/-- THE TIED CARD OF 'laws.FnPathBelow'. -/
def fnPathBelowCard : Claim7 := { stood := { row := fnPathBelowRow, standIns := [], harness := (true, "f0fa8597cf08f150f5ea3bfa1a7527616131151d037ae2230c8cb64dafa7aaf1"), looks := false }, kinds := [], alts := [], laidByText := true, laidKinds := [.data, .pinned], laidTests := true, laidLooks := .later }
def FnPathBelowCardSaid : Prop := Claim7.holds Tryd.pinned (.plain (OpenSpec.ofChange fnPathBelowSpec)) fnPathBelowCard

/-- THE TIED CARD OF 'laws.FnExactPathParts'. -/
def fnExactPathPartsCard : Claim7 := { stood := { row := fnExactPathPartsRow, standIns := [], harness := (true, "f0fa8597cf08f150f5ea3bfa1a7527616131151d037ae2230c8cb64dafa7aaf1"), looks := false }, kinds := [], alts := [], laidByText := true, laidKinds := [.data, .pinned], laidTests := true, laidLooks := .later }
def FnExactPathPartsCardSaid : Prop := Claim7.holds Tryd.pinned (.plain (OpenSpec.ofChange fnExactPathPartsSpec)) fnExactPathPartsCard

/-- THE TIED CARD OF 'laws.FnExactPathBelow'. -/
def fnExactPathBelowCard : Claim7 := { stood := { row := fnExactPathBelowRow, standIns := [], harness := (true, "f0fa8597cf08f150f5ea3bfa1a7527616131151d037ae2230c8cb64dafa7aaf1"), looks := false }, kinds := [], alts := [], laidByText := true, laidKinds := [.data, .pinned], laidTests := true, laidLooks := .later }
def FnExactPathBelowCardSaid : Prop := Claim7.holds Tryd.pinned (.plain (OpenSpec.ofChange fnExactPathBelowSpec)) fnExactPathBelowCard

/-- THE SECOND FORM's CARD OF 'laws.FnJoinPath'. -/
def fnJoinPathUptoCard : Claim7 := { stood := { row := fnJoinPathUptoRow, standIns := [], harness := (true, "f0fa8597cf08f150f5ea3bfa1a7527616131151d037ae2230c8cb64dafa7aaf1"), looks := false }, kinds := [], alts := [], laidByText := true, laidKinds := [.data, .pinned], laidTests := true, laidLooks := .later }
def FnJoinPathUptoCardSaid : Prop := Claim7.holds Tryd.pinned (.plain (OpenSpec.upto fnJoinPathSpec)) fnJoinPathUptoCard

/-- THE SECOND FORM's CARD OF 'laws.FnPathParts'. -/
def fnPathPartsUptoCard : Claim7 := { stood := { row := fnPathPartsUptoRow, standIns := [], harness := (true, "f0fa8597cf08f150f5ea3bfa1a7527616131151d037ae2230c8cb64dafa7aaf1"), looks := false }, kinds := [], alts := [], laidByText := true, laidKinds := [.data, .pinned], laidTests := true, laidLooks := .later }
def FnPathPartsUptoCardSaid : Prop := Claim7.holds Tryd.pinned (.plain (OpenSpec.upto fnPathPartsSpec)) fnPathPartsUptoCard

/-- THE SECOND FORM's CARD OF 'laws.FnPathBelow'. -/
def fnPathBelowUptoCard : Claim7 := { stood := { row := fnPathBelowUptoRow, standIns := [], harness := (true, "f0fa8597cf08f150f5ea3bfa1a7527616131151d037ae2230c8cb64dafa7aaf1"), looks := false }, kinds := [], alts := [], laidByText := true, laidKinds := [.data, .pinned], laidTests := true, laidLooks := .later }
def FnPathBelowUptoCardSaid : Prop := Claim7.holds Tryd.pinned (.plain (OpenSpec.upto fnPathBelowSpec)) fnPathBelowUptoCard

/-- THE SECOND FORM's CARD OF 'laws.FnExactPathParts'. -/
def fnExactPathPartsUptoCard : Claim7 := { stood := { row := fnExactPathPartsUptoRow, standIns := [], harness := (true, "f0fa8597cf08f150f5ea3bfa1a7527616131151d037ae2230c8cb64dafa7aaf1"), looks := false }, kinds := [], alts := [], laidByText := true, laidKinds := [.data, .pinned], laidTests := true, laidLooks := .later }
def FnExactPathPartsUptoCardSaid : Prop := Claim7.holds Tryd.pinned (.plain (OpenSpec.upto fnExactPathPartsSpec)) fnExactPathPartsUptoCard

/-- THE SECOND FORM's CARD OF 'laws.FnExactPathBelow'. -/
def fnExactPathBelowUptoCard : Claim7 := { stood := { row := fnExactPathBelowUptoRow, standIns := [], harness := (true, "f0fa8597cf08f150f5ea3bfa1a7527616131151d037ae2230c8cb64dafa7aaf1"), looks := false }, kinds := [], alts := [], laidByText := true, laidKinds := [.data, .pinned], laidTests := true, laidLooks := .later }
def FnExactPathBelowUptoCardSaid : Prop := Claim7.holds Tryd.pinned (.plain (OpenSpec.upto fnExactPathBelowSpec)) fnExactPathBelowUptoCard
end Rows
end Go.Proofs.YtbghefphhpfcgaaDoor
