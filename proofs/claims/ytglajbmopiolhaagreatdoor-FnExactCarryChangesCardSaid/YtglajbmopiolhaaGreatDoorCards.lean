/-
  DERIVED. GIVEN WITH THE SEED: THE CARDS: each row of YtglajbmopiolhaaGreatDoorRows.lean that lists a variable, with what it lists TIED to the program's text (the seventh form; the later family's looks); each row that meets fmt, with fmt's text TOLD by the authors' own Lean function (tested against real Go, not proved from fmt's source: count such statements apart). THE CARD IS WHAT COUNTS. Prove the row's statement (the work); the ties are given (YtglajbmopiolhaaGreatDoorTie.lean); close each card by the builder's one call (the guide's Derived/Test/ToyasCard.lean, 'card_holds'). Laid BY PROGRAM, IN A SANDBOX (cutbox-door.mjs). By AI agents, Wed Nov 11 2026. No macro, syntax, notation, axiom, sorry.
-/
import Derived.Test.YtglajbmopiolhaaGreatDoorRows
import GoSem.ClaimSeven
namespace Go.Proofs.YtglajbmopiolhaaGreatDoor
namespace Rows

/-- THE TIED CARD OF 'laws.FnSameFiles'. -/
def fnSameFilesCard : Claim7 := { stood := { row := fnSameFilesRow, standIns := [], harness := (true, "b2b1f501c018c97034fb0c20be5047d83576da8abfcc0efc546b59f28327aed7"), looks := false }, kinds := [], alts := [], laidByText := true, laidKinds := [.data, .pinned], laidTests := true, laidLooks := .later }
def FnSameFilesCardSaid : Prop := Claim7.holds Tryz.pinned (.plain (OpenSpec.ofChange fnSameFilesSpec)) fnSameFilesCard

/-- THE TIED CARD OF 'laws.FnChangesOf'. -/
def fnChangesOfCard : Claim7 := { stood := { row := fnChangesOfRow, standIns := [], harness := (true, "b2b1f501c018c97034fb0c20be5047d83576da8abfcc0efc546b59f28327aed7"), looks := false }, kinds := [], alts := [], laidByText := true, laidKinds := [.data, .pinned], laidTests := true, laidLooks := .later }
def FnChangesOfCardSaid : Prop := Claim7.holds Tryz.pinned (.plain (OpenSpec.ofChange fnChangesOfSpec)) fnChangesOfCard

/-- THE TIED CARD OF 'laws.FnCarryChanges'. -/
def fnCarryChangesCard : Claim7 := { stood := { row := fnCarryChangesRow, standIns := [], harness := (true, "b2b1f501c018c97034fb0c20be5047d83576da8abfcc0efc546b59f28327aed7"), looks := false }, kinds := [], alts := [], laidByText := true, laidKinds := [.data, .pinned], laidTests := true, laidLooks := .later }
def FnCarryChangesCardSaid : Prop := Claim7.holds Tryz.pinned (.plain (OpenSpec.ofChange fnCarryChangesSpec)) fnCarryChangesCard

/-- THE TIED CARD OF 'laws.FnChangesCarry'. -/
def fnChangesCarryCard : Claim7 := { stood := { row := fnChangesCarryRow, standIns := [], harness := (true, "b2b1f501c018c97034fb0c20be5047d83576da8abfcc0efc546b59f28327aed7"), looks := false }, kinds := [], alts := [], laidByText := true, laidKinds := [.data, .pinned], laidTests := true, laidLooks := .later }
def FnChangesCarryCardSaid : Prop := Claim7.holds Tryz.pinned (.plain (OpenSpec.ofChange fnChangesCarrySpec)) fnChangesCarryCard

/-- THE TIED CARD OF 'laws.FnExactChangesOf'. -/
def fnExactChangesOfCard : Claim7 := { stood := { row := fnExactChangesOfRow, standIns := [], harness := (true, "b2b1f501c018c97034fb0c20be5047d83576da8abfcc0efc546b59f28327aed7"), looks := false }, kinds := [], alts := [], laidByText := true, laidKinds := [.data, .pinned], laidTests := true, laidLooks := .later }
def FnExactChangesOfCardSaid : Prop := Claim7.holds Tryz.pinned (.plain (OpenSpec.ofChange fnExactChangesOfSpec)) fnExactChangesOfCard

/-- THE TIED CARD OF 'laws.FnExactCarryChanges'. -/
def fnExactCarryChangesCard : Claim7 := { stood := { row := fnExactCarryChangesRow, standIns := [], harness := (true, "b2b1f501c018c97034fb0c20be5047d83576da8abfcc0efc546b59f28327aed7"), looks := false }, kinds := [], alts := [], laidByText := true, laidKinds := [.data, .pinned], laidTests := true, laidLooks := .later }
def FnExactCarryChangesCardSaid : Prop := Claim7.holds Tryz.pinned (.plain (OpenSpec.ofChange fnExactCarryChangesSpec)) fnExactCarryChangesCard

/-- THE SECOND FORM's CARD OF 'laws.FnSameFiles'. -/
def fnSameFilesUptoCard : Claim7 := { stood := { row := fnSameFilesUptoRow, standIns := [], harness := (true, "b2b1f501c018c97034fb0c20be5047d83576da8abfcc0efc546b59f28327aed7"), looks := false }, kinds := [], alts := [], laidByText := true, laidKinds := [.data, .pinned], laidTests := true, laidLooks := .later }
def FnSameFilesUptoCardSaid : Prop := Claim7.holds Tryz.pinned (.plain (OpenSpec.upto fnSameFilesSpec)) fnSameFilesUptoCard

/-- THE SECOND FORM's CARD OF 'laws.FnChangesOf'. -/
def fnChangesOfUptoCard : Claim7 := { stood := { row := fnChangesOfUptoRow, standIns := [], harness := (true, "b2b1f501c018c97034fb0c20be5047d83576da8abfcc0efc546b59f28327aed7"), looks := false }, kinds := [], alts := [], laidByText := true, laidKinds := [.data, .pinned], laidTests := true, laidLooks := .later }
def FnChangesOfUptoCardSaid : Prop := Claim7.holds Tryz.pinned (.plain (OpenSpec.upto fnChangesOfSpec)) fnChangesOfUptoCard

/-- THE SECOND FORM's CARD OF 'laws.FnCarryChanges'. -/
def fnCarryChangesUptoCard : Claim7 := { stood := { row := fnCarryChangesUptoRow, standIns := [], harness := (true, "b2b1f501c018c97034fb0c20be5047d83576da8abfcc0efc546b59f28327aed7"), looks := false }, kinds := [], alts := [], laidByText := true, laidKinds := [.data, .pinned], laidTests := true, laidLooks := .later }
def FnCarryChangesUptoCardSaid : Prop := Claim7.holds Tryz.pinned (.plain (OpenSpec.upto fnCarryChangesSpec)) fnCarryChangesUptoCard

/-- THE SECOND FORM's CARD OF 'laws.FnChangesCarry'. -/
def fnChangesCarryUptoCard : Claim7 := { stood := { row := fnChangesCarryUptoRow, standIns := [], harness := (true, "b2b1f501c018c97034fb0c20be5047d83576da8abfcc0efc546b59f28327aed7"), looks := false }, kinds := [], alts := [], laidByText := true, laidKinds := [.data, .pinned], laidTests := true, laidLooks := .later }
def FnChangesCarryUptoCardSaid : Prop := Claim7.holds Tryz.pinned (.plain (OpenSpec.upto fnChangesCarrySpec)) fnChangesCarryUptoCard

/-- THE SECOND FORM's CARD OF 'laws.FnExactChangesOf'. -/
def fnExactChangesOfUptoCard : Claim7 := { stood := { row := fnExactChangesOfUptoRow, standIns := [], harness := (true, "b2b1f501c018c97034fb0c20be5047d83576da8abfcc0efc546b59f28327aed7"), looks := false }, kinds := [], alts := [], laidByText := true, laidKinds := [.data, .pinned], laidTests := true, laidLooks := .later }
def FnExactChangesOfUptoCardSaid : Prop := Claim7.holds Tryz.pinned (.plain (OpenSpec.upto fnExactChangesOfSpec)) fnExactChangesOfUptoCard

/-- THE SECOND FORM's CARD OF 'laws.FnExactCarryChanges'. -/
def fnExactCarryChangesUptoCard : Claim7 := { stood := { row := fnExactCarryChangesUptoRow, standIns := [], harness := (true, "b2b1f501c018c97034fb0c20be5047d83576da8abfcc0efc546b59f28327aed7"), looks := false }, kinds := [], alts := [], laidByText := true, laidKinds := [.data, .pinned], laidTests := true, laidLooks := .later }
def FnExactCarryChangesUptoCardSaid : Prop := Claim7.holds Tryz.pinned (.plain (OpenSpec.upto fnExactCarryChangesSpec)) fnExactCarryChangesUptoCard
end Rows
end Go.Proofs.YtglajbmopiolhaaGreatDoor
