/-
  DERIVED. GIVEN WITH THE SEED: THE CARDS: each row of YtbbjpihlielpgaaGreatDoorRows.lean that lists a variable, with what it lists TIED to the program's text (the seventh form; the later family's looks); each row that meets fmt, with fmt's text TOLD by the authors' own Lean function (tested against real Go, not proved from fmt's source: count such statements apart). THE CARD IS WHAT COUNTS. Prove the row's statement (the work); the ties are given (YtbbjpihlielpgaaGreatDoorTie.lean); close each card by the builder's one call (the guide's Derived/Test/ToyasCard.lean, 'card_holds'). Laid BY PROGRAM, IN A SANDBOX (cutbox-door.mjs). By AI agents, Wed Nov 11 2026. No macro, syntax, notation, axiom, sorry.
-/
import Derived.Test.YtbbjpihlielpgaaGreatDoorRows
import GoSem.ClaimSeven
namespace Go.Proofs.YtbbjpihlielpgaaGreatDoor
namespace Rows

/-- THE TIED CARD OF 'laws.FnReadAt'. -/
def fnReadAtCard : Claim7 := { stood := { row := fnReadAtRow, standIns := [], harness := (true, "11b3c1c8333efdaf620830282cc21530ba320e593c10528a15797eb1e408a8e3"), looks := false }, kinds := [], alts := [], laidByText := true, laidKinds := [.data, .pinned], laidTests := true, laidLooks := .later }
def FnReadAtCardSaid : Prop := Claim7.holds Tryz.pinned (.plain (OpenSpec.ofChange fnReadAtSpec)) fnReadAtCard

/-- THE TIED CARD OF 'laws.FnNamesAt'. -/
def fnNamesAtCard : Claim7 := { stood := { row := fnNamesAtRow, standIns := [], harness := (true, "11b3c1c8333efdaf620830282cc21530ba320e593c10528a15797eb1e408a8e3"), looks := false }, kinds := [], alts := [], laidByText := true, laidKinds := [.data, .pinned], laidTests := true, laidLooks := .later }
def FnNamesAtCardSaid : Prop := Claim7.holds Tryz.pinned (.plain (OpenSpec.ofChange fnNamesAtSpec)) fnNamesAtCard

/-- THE TIED CARD OF 'laws.FnEmptyRoot'. -/
def fnEmptyRootCard : Claim7 := { stood := { row := fnEmptyRootRow, standIns := [], harness := (true, "11b3c1c8333efdaf620830282cc21530ba320e593c10528a15797eb1e408a8e3"), looks := false }, kinds := [], alts := [], laidByText := true, laidKinds := [.data, .pinned], laidTests := true, laidLooks := .later }
def FnEmptyRootCardSaid : Prop := Claim7.holds Tryz.pinned (.plain (OpenSpec.ofChange fnEmptyRootSpec)) fnEmptyRootCard

/-- THE TIED CARD OF 'laws.FnWriteAt'. -/
def fnWriteAtCard : Claim7 := { stood := { row := fnWriteAtRow, standIns := [], harness := (true, "11b3c1c8333efdaf620830282cc21530ba320e593c10528a15797eb1e408a8e3"), looks := false }, kinds := [], alts := [], laidByText := true, laidKinds := [.data, .pinned], laidTests := true, laidLooks := .later }
def FnWriteAtCardSaid : Prop := Claim7.holds Tryz.pinned (.plain (OpenSpec.ofChange fnWriteAtSpec)) fnWriteAtCard

/-- THE TIED CARD OF 'laws.FnDropAt'. -/
def fnDropAtCard : Claim7 := { stood := { row := fnDropAtRow, standIns := [], harness := (true, "11b3c1c8333efdaf620830282cc21530ba320e593c10528a15797eb1e408a8e3"), looks := false }, kinds := [], alts := [], laidByText := true, laidKinds := [.data, .pinned], laidTests := true, laidLooks := .later }
def FnDropAtCardSaid : Prop := Claim7.holds Tryz.pinned (.plain (OpenSpec.ofChange fnDropAtSpec)) fnDropAtCard

/-- THE TIED CARD OF 'laws.FnWriteBack'. -/
def fnWriteBackCard : Claim7 := { stood := { row := fnWriteBackRow, standIns := [], harness := (true, "11b3c1c8333efdaf620830282cc21530ba320e593c10528a15797eb1e408a8e3"), looks := false }, kinds := [], alts := [], laidByText := true, laidKinds := [.data, .pinned], laidTests := true, laidLooks := .later }
def FnWriteBackCardSaid : Prop := Claim7.holds Tryz.pinned (.plain (OpenSpec.ofChange fnWriteBackSpec)) fnWriteBackCard

/-- THE TIED CARD OF 'laws.FnAllFiles'. -/
def fnAllFilesCard : Claim7 := { stood := { row := fnAllFilesRow, standIns := [], harness := (true, "11b3c1c8333efdaf620830282cc21530ba320e593c10528a15797eb1e408a8e3"), looks := false }, kinds := [], alts := [], laidByText := true, laidKinds := [.data, .pinned], laidTests := true, laidLooks := .later }
def FnAllFilesCardSaid : Prop := Claim7.holds Tryz.pinned (.plain (OpenSpec.ofChange fnAllFilesSpec)) fnAllFilesCard

/-- THE TIED CARD OF 'laws.FnFilesNamed'. -/
def fnFilesNamedCard : Claim7 := { stood := { row := fnFilesNamedRow, standIns := [], harness := (true, "11b3c1c8333efdaf620830282cc21530ba320e593c10528a15797eb1e408a8e3"), looks := false }, kinds := [], alts := [], laidByText := true, laidKinds := [.data, .pinned], laidTests := true, laidLooks := .later }
def FnFilesNamedCardSaid : Prop := Claim7.holds Tryz.pinned (.plain (OpenSpec.ofChange fnFilesNamedSpec)) fnFilesNamedCard

/-- THE TIED CARD OF 'laws.FnExactDropAt'. -/
def fnExactDropAtCard : Claim7 := { stood := { row := fnExactDropAtRow, standIns := [], harness := (true, "11b3c1c8333efdaf620830282cc21530ba320e593c10528a15797eb1e408a8e3"), looks := false }, kinds := [], alts := [], laidByText := true, laidKinds := [.data, .pinned], laidTests := true, laidLooks := .later }
def FnExactDropAtCardSaid : Prop := Claim7.holds Tryz.pinned (.plain (OpenSpec.ofChange fnExactDropAtSpec)) fnExactDropAtCard

/-- THE SECOND FORM's CARD OF 'laws.FnReadAt'. -/
def fnReadAtUptoCard : Claim7 := { stood := { row := fnReadAtUptoRow, standIns := [], harness := (true, "11b3c1c8333efdaf620830282cc21530ba320e593c10528a15797eb1e408a8e3"), looks := false }, kinds := [], alts := [], laidByText := true, laidKinds := [.data, .pinned], laidTests := true, laidLooks := .later }
def FnReadAtUptoCardSaid : Prop := Claim7.holds Tryz.pinned (.plain (OpenSpec.upto fnReadAtSpec)) fnReadAtUptoCard

/-- THE SECOND FORM's CARD OF 'laws.FnNamesAt'. -/
def fnNamesAtUptoCard : Claim7 := { stood := { row := fnNamesAtUptoRow, standIns := [], harness := (true, "11b3c1c8333efdaf620830282cc21530ba320e593c10528a15797eb1e408a8e3"), looks := false }, kinds := [], alts := [], laidByText := true, laidKinds := [.data, .pinned], laidTests := true, laidLooks := .later }
def FnNamesAtUptoCardSaid : Prop := Claim7.holds Tryz.pinned (.plain (OpenSpec.upto fnNamesAtSpec)) fnNamesAtUptoCard

/-- THE SECOND FORM's CARD OF 'laws.FnEmptyRoot'. -/
def fnEmptyRootUptoCard : Claim7 := { stood := { row := fnEmptyRootUptoRow, standIns := [], harness := (true, "11b3c1c8333efdaf620830282cc21530ba320e593c10528a15797eb1e408a8e3"), looks := false }, kinds := [], alts := [], laidByText := true, laidKinds := [.data, .pinned], laidTests := true, laidLooks := .later }
def FnEmptyRootUptoCardSaid : Prop := Claim7.holds Tryz.pinned (.plain (OpenSpec.upto fnEmptyRootSpec)) fnEmptyRootUptoCard

/-- THE SECOND FORM's CARD OF 'laws.FnWriteAt'. -/
def fnWriteAtUptoCard : Claim7 := { stood := { row := fnWriteAtUptoRow, standIns := [], harness := (true, "11b3c1c8333efdaf620830282cc21530ba320e593c10528a15797eb1e408a8e3"), looks := false }, kinds := [], alts := [], laidByText := true, laidKinds := [.data, .pinned], laidTests := true, laidLooks := .later }
def FnWriteAtUptoCardSaid : Prop := Claim7.holds Tryz.pinned (.plain (OpenSpec.upto fnWriteAtSpec)) fnWriteAtUptoCard

/-- THE SECOND FORM's CARD OF 'laws.FnDropAt'. -/
def fnDropAtUptoCard : Claim7 := { stood := { row := fnDropAtUptoRow, standIns := [], harness := (true, "11b3c1c8333efdaf620830282cc21530ba320e593c10528a15797eb1e408a8e3"), looks := false }, kinds := [], alts := [], laidByText := true, laidKinds := [.data, .pinned], laidTests := true, laidLooks := .later }
def FnDropAtUptoCardSaid : Prop := Claim7.holds Tryz.pinned (.plain (OpenSpec.upto fnDropAtSpec)) fnDropAtUptoCard

/-- THE SECOND FORM's CARD OF 'laws.FnWriteBack'. -/
def fnWriteBackUptoCard : Claim7 := { stood := { row := fnWriteBackUptoRow, standIns := [], harness := (true, "11b3c1c8333efdaf620830282cc21530ba320e593c10528a15797eb1e408a8e3"), looks := false }, kinds := [], alts := [], laidByText := true, laidKinds := [.data, .pinned], laidTests := true, laidLooks := .later }
def FnWriteBackUptoCardSaid : Prop := Claim7.holds Tryz.pinned (.plain (OpenSpec.upto fnWriteBackSpec)) fnWriteBackUptoCard

/-- THE SECOND FORM's CARD OF 'laws.FnAllFiles'. -/
def fnAllFilesUptoCard : Claim7 := { stood := { row := fnAllFilesUptoRow, standIns := [], harness := (true, "11b3c1c8333efdaf620830282cc21530ba320e593c10528a15797eb1e408a8e3"), looks := false }, kinds := [], alts := [], laidByText := true, laidKinds := [.data, .pinned], laidTests := true, laidLooks := .later }
def FnAllFilesUptoCardSaid : Prop := Claim7.holds Tryz.pinned (.plain (OpenSpec.upto fnAllFilesSpec)) fnAllFilesUptoCard

/-- THE SECOND FORM's CARD OF 'laws.FnFilesNamed'. -/
def fnFilesNamedUptoCard : Claim7 := { stood := { row := fnFilesNamedUptoRow, standIns := [], harness := (true, "11b3c1c8333efdaf620830282cc21530ba320e593c10528a15797eb1e408a8e3"), looks := false }, kinds := [], alts := [], laidByText := true, laidKinds := [.data, .pinned], laidTests := true, laidLooks := .later }
def FnFilesNamedUptoCardSaid : Prop := Claim7.holds Tryz.pinned (.plain (OpenSpec.upto fnFilesNamedSpec)) fnFilesNamedUptoCard

/-- THE SECOND FORM's CARD OF 'laws.FnExactDropAt'. -/
def fnExactDropAtUptoCard : Claim7 := { stood := { row := fnExactDropAtUptoRow, standIns := [], harness := (true, "11b3c1c8333efdaf620830282cc21530ba320e593c10528a15797eb1e408a8e3"), looks := false }, kinds := [], alts := [], laidByText := true, laidKinds := [.data, .pinned], laidTests := true, laidLooks := .later }
def FnExactDropAtUptoCardSaid : Prop := Claim7.holds Tryz.pinned (.plain (OpenSpec.upto fnExactDropAtSpec)) fnExactDropAtUptoCard
end Rows
end Go.Proofs.YtbbjpihlielpgaaGreatDoor
