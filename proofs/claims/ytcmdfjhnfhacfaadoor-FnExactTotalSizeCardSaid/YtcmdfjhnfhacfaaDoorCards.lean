/-
  DERIVED. GIVEN WITH THE SEED: THE CARDS: each row of YtcmdfjhnfhacfaaDoorRows.lean that lists a variable, with what it lists TIED to the program's text (the seventh form; the later family's looks); each row that meets fmt, with fmt's text TOLD by the authors' own Lean function (tested against real Go, not proved from fmt's source: count such statements apart). THE CARD IS WHAT COUNTS. Prove the row's statement (the work); the ties are given (YtcmdfjhnfhacfaaDoorTie.lean); close each card by the builder's one call (the guide's Derived/Test/ToyasCard.lean, 'card_holds'). Laid BY PROGRAM, IN A SANDBOX (cutbox-door.mjs). By AI agents, Wed Nov 11 2026. No macro, syntax, notation, axiom, sorry.
-/
import Derived.Test.YtcmdfjhnfhacfaaDoorRows
import GoSem.ClaimSeven
namespace Go.Proofs.YtcmdfjhnfhacfaaDoor
namespace Rows

/-- THE TIED CARD OF 'laws.FnExactTotalSize'. -/
def fnExactTotalSizeCard : Claim7 := { stood := { row := fnExactTotalSizeRow, standIns := [], harness := (true, "89d5f8dd4c3a6a0084682a8e7046666730c240311bafb012736be0c3d79fec4a"), looks := false }, kinds := [], alts := [], laidByText := true, laidKinds := [.data, .pinned], laidTests := true, laidLooks := .later }
def FnExactTotalSizeCardSaid : Prop := Claim7.holds Tryd.pinned (.plain (OpenSpec.ofChange fnExactTotalSizeSpec)) fnExactTotalSizeCard

/-- THE TIED CARD OF 'laws.FnExactSameFiles'. -/
def fnExactSameFilesCard : Claim7 := { stood := { row := fnExactSameFilesRow, standIns := [], harness := (true, "89d5f8dd4c3a6a0084682a8e7046666730c240311bafb012736be0c3d79fec4a"), looks := false }, kinds := [], alts := [], laidByText := true, laidKinds := [.data, .pinned], laidTests := true, laidLooks := .later }
def FnExactSameFilesCardSaid : Prop := Claim7.holds Tryd.pinned (.plain (OpenSpec.ofChange fnExactSameFilesSpec)) fnExactSameFilesCard

/-- THE SECOND FORM's CARD OF 'laws.FnExactTotalSize'. -/
def fnExactTotalSizeUptoCard : Claim7 := { stood := { row := fnExactTotalSizeUptoRow, standIns := [], harness := (true, "89d5f8dd4c3a6a0084682a8e7046666730c240311bafb012736be0c3d79fec4a"), looks := false }, kinds := [], alts := [], laidByText := true, laidKinds := [.data, .pinned], laidTests := true, laidLooks := .later }
def FnExactTotalSizeUptoCardSaid : Prop := Claim7.holds Tryd.pinned (.plain (OpenSpec.upto fnExactTotalSizeSpec)) fnExactTotalSizeUptoCard

/-- THE SECOND FORM's CARD OF 'laws.FnExactSameFiles'. -/
def fnExactSameFilesUptoCard : Claim7 := { stood := { row := fnExactSameFilesUptoRow, standIns := [], harness := (true, "89d5f8dd4c3a6a0084682a8e7046666730c240311bafb012736be0c3d79fec4a"), looks := false }, kinds := [], alts := [], laidByText := true, laidKinds := [.data, .pinned], laidTests := true, laidLooks := .later }
def FnExactSameFilesUptoCardSaid : Prop := Claim7.holds Tryd.pinned (.plain (OpenSpec.upto fnExactSameFilesSpec)) fnExactSameFilesUptoCard
end Rows
end Go.Proofs.YtcmdfjhnfhacfaaDoor
