/-
  DERIVED. GIVEN WITH THE SEED: THE CARDS: each row of YtigegjgkjahhaaaGreatDoorRows.lean that lists a variable, with what it lists TIED to the program's text (the seventh form; the later family's looks); each row that meets fmt, with fmt's text TOLD by the authors' own Lean function (tested against real Go, not proved from fmt's source: count such statements apart). THE CARD IS WHAT COUNTS. Prove the row's statement (the work); the ties are given (YtigegjgkjahhaaaGreatDoorTie.lean); close each card by the builder's one call (the guide's Derived/Test/ToyasCard.lean, 'card_holds'). Laid BY PROGRAM, IN A SANDBOX (cutbox-door.mjs). By AI agents, Wed Nov 11 2026. No macro, syntax, notation, axiom, sorry.
-/
import Derived.Test.YtigegjgkjahhaaaGreatDoorRows
import GoSem.ClaimSeven
namespace Go.Proofs.YtigegjgkjahhaaaGreatDoor
namespace Rows

/-- THE TIED CARD OF 'laws.FnWriteBack'. -/
def fnWriteBackCard : Claim7 := { stood := { row := fnWriteBackRow, standIns := [], harness := (true, "877bc00a718d4c8c5c7db96c5b2d07bd36cbaff7d52144effe55936cac0c5c96"), looks := false }, kinds := [], alts := [], laidByText := true, laidKinds := [.data, .pinned], laidTests := true, laidLooks := .later }
def FnWriteBackCardSaid : Prop := Claim7.holds Tryz.pinned (.plain (OpenSpec.ofChange fnWriteBackSpec)) fnWriteBackCard

/-- THE TIED CARD OF 'laws.FnWriteOrder'. -/
def fnWriteOrderCard : Claim7 := { stood := { row := fnWriteOrderRow, standIns := [], harness := (true, "877bc00a718d4c8c5c7db96c5b2d07bd36cbaff7d52144effe55936cac0c5c96"), looks := false }, kinds := [], alts := [], laidByText := true, laidKinds := [.data, .pinned], laidTests := true, laidLooks := .later }
def FnWriteOrderCardSaid : Prop := Claim7.holds Tryz.pinned (.plain (OpenSpec.ofChange fnWriteOrderSpec)) fnWriteOrderCard

/-- THE TIED CARD OF 'laws.FnExactWriteAt'. -/
def fnExactWriteAtCard : Claim7 := { stood := { row := fnExactWriteAtRow, standIns := [], harness := (true, "877bc00a718d4c8c5c7db96c5b2d07bd36cbaff7d52144effe55936cac0c5c96"), looks := false }, kinds := [], alts := [], laidByText := true, laidKinds := [.data, .pinned], laidTests := true, laidLooks := .later }
def FnExactWriteAtCardSaid : Prop := Claim7.holds Tryz.pinned (.plain (OpenSpec.ofChange fnExactWriteAtSpec)) fnExactWriteAtCard

/-- THE TIED CARD OF 'laws.FnExactDropAt'. -/
def fnExactDropAtCard : Claim7 := { stood := { row := fnExactDropAtRow, standIns := [], harness := (true, "877bc00a718d4c8c5c7db96c5b2d07bd36cbaff7d52144effe55936cac0c5c96"), looks := false }, kinds := [], alts := [], laidByText := true, laidKinds := [.data, .pinned], laidTests := true, laidLooks := .later }
def FnExactDropAtCardSaid : Prop := Claim7.holds Tryz.pinned (.plain (OpenSpec.ofChange fnExactDropAtSpec)) fnExactDropAtCard

/-- THE SECOND FORM's CARD OF 'laws.FnWriteBack'. -/
def fnWriteBackUptoCard : Claim7 := { stood := { row := fnWriteBackUptoRow, standIns := [], harness := (true, "877bc00a718d4c8c5c7db96c5b2d07bd36cbaff7d52144effe55936cac0c5c96"), looks := false }, kinds := [], alts := [], laidByText := true, laidKinds := [.data, .pinned], laidTests := true, laidLooks := .later }
def FnWriteBackUptoCardSaid : Prop := Claim7.holds Tryz.pinned (.plain (OpenSpec.upto fnWriteBackSpec)) fnWriteBackUptoCard

/-- THE SECOND FORM's CARD OF 'laws.FnWriteOrder'. -/
def fnWriteOrderUptoCard : Claim7 := { stood := { row := fnWriteOrderUptoRow, standIns := [], harness := (true, "877bc00a718d4c8c5c7db96c5b2d07bd36cbaff7d52144effe55936cac0c5c96"), looks := false }, kinds := [], alts := [], laidByText := true, laidKinds := [.data, .pinned], laidTests := true, laidLooks := .later }
def FnWriteOrderUptoCardSaid : Prop := Claim7.holds Tryz.pinned (.plain (OpenSpec.upto fnWriteOrderSpec)) fnWriteOrderUptoCard

/-- THE SECOND FORM's CARD OF 'laws.FnExactWriteAt'. -/
def fnExactWriteAtUptoCard : Claim7 := { stood := { row := fnExactWriteAtUptoRow, standIns := [], harness := (true, "877bc00a718d4c8c5c7db96c5b2d07bd36cbaff7d52144effe55936cac0c5c96"), looks := false }, kinds := [], alts := [], laidByText := true, laidKinds := [.data, .pinned], laidTests := true, laidLooks := .later }
def FnExactWriteAtUptoCardSaid : Prop := Claim7.holds Tryz.pinned (.plain (OpenSpec.upto fnExactWriteAtSpec)) fnExactWriteAtUptoCard

/-- THE SECOND FORM's CARD OF 'laws.FnExactDropAt'. -/
def fnExactDropAtUptoCard : Claim7 := { stood := { row := fnExactDropAtUptoRow, standIns := [], harness := (true, "877bc00a718d4c8c5c7db96c5b2d07bd36cbaff7d52144effe55936cac0c5c96"), looks := false }, kinds := [], alts := [], laidByText := true, laidKinds := [.data, .pinned], laidTests := true, laidLooks := .later }
def FnExactDropAtUptoCardSaid : Prop := Claim7.holds Tryz.pinned (.plain (OpenSpec.upto fnExactDropAtSpec)) fnExactDropAtUptoCard
end Rows
end Go.Proofs.YtigegjgkjahhaaaGreatDoor
