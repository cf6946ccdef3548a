/-
  DERIVED. GIVEN WITH THE SEED: THE CARDS: each row of YtbbjpihlielpgaaDoorRows.lean that lists a variable, with what it lists TIED to the program's text (the seventh form; the later family's looks); each row that meets fmt, with fmt's text TOLD by the authors' own Lean function (tested against real Go, not proved from fmt's source: count such statements apart). THE CARD IS WHAT COUNTS. Prove the row's statement (the work); the ties are given (YtbbjpihlielpgaaDoorTie.lean); close each card by the builder's one call (the guide's Derived/Test/ToyasCard.lean, 'card_holds'). Laid BY PROGRAM, IN A SANDBOX (cutbox-door.mjs). By AI agents, Wed Nov 11 2026. No macro, syntax, notation, axiom, sorry.
-/
import Derived.Test.YtbbjpihlielpgaaDoorRows
import GoSem.ClaimSeven
namespace Go.Proofs.YtbbjpihlielpgaaDoor
namespace Rows

/-- THE TIED CARD OF 'laws.FnWalkTo'. -/
def fnWalkToCard : Claim7 := { stood := { row := fnWalkToRow, standIns := [], harness := (true, "d21e1cbad15cdc400c7817ce62a7ac88c41a995271dbfd9c5fc638fc1e46e71f"), looks := false }, kinds := [], alts := [], laidByText := true, laidKinds := [.data, .pinned], laidTests := true, laidLooks := .later }
def FnWalkToCardSaid : Prop := Claim7.holds Tryd.pinned (.plain (OpenSpec.ofChange fnWalkToSpec)) fnWalkToCard

/-- THE TIED CARD OF 'laws.FnExactTotalSize'. -/
def fnExactTotalSizeCard : Claim7 := { stood := { row := fnExactTotalSizeRow, standIns := [], harness := (true, "d21e1cbad15cdc400c7817ce62a7ac88c41a995271dbfd9c5fc638fc1e46e71f"), looks := false }, kinds := [], alts := [], laidByText := true, laidKinds := [.data, .pinned], laidTests := true, laidLooks := .later }
def FnExactTotalSizeCardSaid : Prop := Claim7.holds Tryd.pinned (.plain (OpenSpec.ofChange fnExactTotalSizeSpec)) fnExactTotalSizeCard

/-- THE TIED CARD OF 'laws.FnExactSameFiles'. -/
def fnExactSameFilesCard : Claim7 := { stood := { row := fnExactSameFilesRow, standIns := [], harness := (true, "d21e1cbad15cdc400c7817ce62a7ac88c41a995271dbfd9c5fc638fc1e46e71f"), looks := false }, kinds := [], alts := [], laidByText := true, laidKinds := [.data, .pinned], laidTests := true, laidLooks := .later }
def FnExactSameFilesCardSaid : Prop := Claim7.holds Tryd.pinned (.plain (OpenSpec.ofChange fnExactSameFilesSpec)) fnExactSameFilesCard

/-- THE TIED CARD OF 'laws.FnExactWalkTo'. -/
def fnExactWalkToCard : Claim7 := { stood := { row := fnExactWalkToRow, standIns := [], harness := (true, "d21e1cbad15cdc400c7817ce62a7ac88c41a995271dbfd9c5fc638fc1e46e71f"), looks := false }, kinds := [], alts := [], laidByText := true, laidKinds := [.data, .pinned], laidTests := true, laidLooks := .later }
def FnExactWalkToCardSaid : Prop := Claim7.holds Tryd.pinned (.plain (OpenSpec.ofChange fnExactWalkToSpec)) fnExactWalkToCard

/-- THE TIED CARD OF 'laws.FnExactReadAt'. -/
def fnExactReadAtCard : Claim7 := { stood := { row := fnExactReadAtRow, standIns := [], harness := (true, "d21e1cbad15cdc400c7817ce62a7ac88c41a995271dbfd9c5fc638fc1e46e71f"), looks := false }, kinds := [], alts := [], laidByText := true, laidKinds := [.data, .pinned], laidTests := true, laidLooks := .later }
def FnExactReadAtCardSaid : Prop := Claim7.holds Tryd.pinned (.plain (OpenSpec.ofChange fnExactReadAtSpec)) fnExactReadAtCard

/-- THE TIED CARD OF 'laws.FnExactNamesAt'. -/
def fnExactNamesAtCard : Claim7 := { stood := { row := fnExactNamesAtRow, standIns := [], harness := (true, "d21e1cbad15cdc400c7817ce62a7ac88c41a995271dbfd9c5fc638fc1e46e71f"), looks := false }, kinds := [], alts := [], laidByText := true, laidKinds := [.data, .pinned], laidTests := true, laidLooks := .later }
def FnExactNamesAtCardSaid : Prop := Claim7.holds Tryd.pinned (.plain (OpenSpec.ofChange fnExactNamesAtSpec)) fnExactNamesAtCard

/-- THE SECOND FORM's CARD OF 'laws.FnWalkTo'. -/
def fnWalkToUptoCard : Claim7 := { stood := { row := fnWalkToUptoRow, standIns := [], harness := (true, "d21e1cbad15cdc400c7817ce62a7ac88c41a995271dbfd9c5fc638fc1e46e71f"), looks := false }, kinds := [], alts := [], laidByText := true, laidKinds := [.data, .pinned], laidTests := true, laidLooks := .later }
def FnWalkToUptoCardSaid : Prop := Claim7.holds Tryd.pinned (.plain (OpenSpec.upto fnWalkToSpec)) fnWalkToUptoCard

/-- THE SECOND FORM's CARD OF 'laws.FnExactTotalSize'. -/
def fnExactTotalSizeUptoCard : Claim7 := { stood := { row := fnExactTotalSizeUptoRow, standIns := [], harness := (true, "d21e1cbad15cdc400c7817ce62a7ac88c41a995271dbfd9c5fc638fc1e46e71f"), looks := false }, kinds := [], alts := [], laidByText := true, laidKinds := [.data, .pinned], laidTests := true, laidLooks := .later }
def FnExactTotalSizeUptoCardSaid : Prop := Claim7.holds Tryd.pinned (.plain (OpenSpec.upto fnExactTotalSizeSpec)) fnExactTotalSizeUptoCard

/-- THE SECOND FORM's CARD OF 'laws.FnExactSameFiles'. -/
def fnExactSameFilesUptoCard : Claim7 := { stood := { row := fnExactSameFilesUptoRow, standIns := [], harness := (true, "d21e1cbad15cdc400c7817ce62a7ac88c41a995271dbfd9c5fc638fc1e46e71f"), looks := false }, kinds := [], alts := [], laidByText := true, laidKinds := [.data, .pinned], laidTests := true, laidLooks := .later }
def FnExactSameFilesUptoCardSaid : Prop := Claim7.holds Tryd.pinned (.plain (OpenSpec.upto fnExactSameFilesSpec)) fnExactSameFilesUptoCard

/-- THE SECOND FORM's CARD OF 'laws.FnExactWalkTo'. -/
def fnExactWalkToUptoCard : Claim7 := { stood := { row := fnExactWalkToUptoRow, standIns := [], harness := (true, "d21e1cbad15cdc400c7817ce62a7ac88c41a995271dbfd9c5fc638fc1e46e71f"), looks := false }, kinds := [], alts := [], laidByText := true, laidKinds := [.data, .pinned], laidTests := true, laidLooks := .later }
def FnExactWalkToUptoCardSaid : Prop := Claim7.holds Tryd.pinned (.plain (OpenSpec.upto fnExactWalkToSpec)) fnExactWalkToUptoCard

/-- THE SECOND FORM's CARD OF 'laws.FnExactReadAt'. -/
def fnExactReadAtUptoCard : Claim7 := { stood := { row := fnExactReadAtUptoRow, standIns := [], harness := (true, "d21e1cbad15cdc400c7817ce62a7ac88c41a995271dbfd9c5fc638fc1e46e71f"), looks := false }, kinds := [], alts := [], laidByText := true, laidKinds := [.data, .pinned], laidTests := true, laidLooks := .later }
def FnExactReadAtUptoCardSaid : Prop := Claim7.holds Tryd.pinned (.plain (OpenSpec.upto fnExactReadAtSpec)) fnExactReadAtUptoCard

/-- THE SECOND FORM's CARD OF 'laws.FnExactNamesAt'. -/
def fnExactNamesAtUptoCard : Claim7 := { stood := { row := fnExactNamesAtUptoRow, standIns := [], harness := (true, "d21e1cbad15cdc400c7817ce62a7ac88c41a995271dbfd9c5fc638fc1e46e71f"), looks := false }, kinds := [], alts := [], laidByText := true, laidKinds := [.data, .pinned], laidTests := true, laidLooks := .later }
def FnExactNamesAtUptoCardSaid : Prop := Claim7.holds Tryd.pinned (.plain (OpenSpec.upto fnExactNamesAtSpec)) fnExactNamesAtUptoCard
end Rows
end Go.Proofs.YtbbjpihlielpgaaDoor
