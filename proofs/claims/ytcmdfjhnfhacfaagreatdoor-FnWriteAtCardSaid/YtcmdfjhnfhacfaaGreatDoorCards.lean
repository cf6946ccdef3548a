/-
  DERIVED. GIVEN WITH THE SEED: THE CARDS: each row of YtcmdfjhnfhacfaaGreatDoorRows.lean that lists a variable, with what it lists TIED to the program's text (the seventh form; the later family's looks); each row that meets fmt, with fmt's text TOLD by the authors' own Lean function (tested against real Go, not proved from fmt's source: count such statements apart). THE CARD IS WHAT COUNTS. Prove the row's statement (the work); the ties are given (YtcmdfjhnfhacfaaGreatDoorTie.lean); close each card by the builder's one call (the guide's Derived/Test/ToyasCard.lean, 'card_holds'). Laid BY PROGRAM, IN A SANDBOX (cutbox-door.mjs). By AI agents, Wed Nov 11 2026. No macro, syntax, notation, axiom, sorry.
-/
import Derived.Test.YtcmdfjhnfhacfaaGreatDoorRows
import GoSem.ClaimSeven
namespace Go.Proofs.YtcmdfjhnfhacfaaGreatDoor
namespace Rows

/-- THE TIED CARD OF 'laws.FnEmptyRoot'. -/
def fnEmptyRootCard : Claim7 := { stood := { row := fnEmptyRootRow, standIns := [], harness := (true, "1c53d74a1ea8fe6153206c8450b47c5f4c2d373cf27a13e3e3df95c17338ceb8"), looks := false }, kinds := [], alts := [], laidByText := true, laidKinds := [.data, .pinned], laidTests := true, laidLooks := .later }
def FnEmptyRootCardSaid : Prop := Claim7.holds Tryz.pinned (.plain (OpenSpec.ofChange fnEmptyRootSpec)) fnEmptyRootCard

/-- THE TIED CARD OF 'laws.FnWriteAt'. -/
def fnWriteAtCard : Claim7 := { stood := { row := fnWriteAtRow, standIns := [], harness := (true, "1c53d74a1ea8fe6153206c8450b47c5f4c2d373cf27a13e3e3df95c17338ceb8"), looks := false }, kinds := [], alts := [], laidByText := true, laidKinds := [.data, .pinned], laidTests := true, laidLooks := .later }
def FnWriteAtCardSaid : Prop := Claim7.holds Tryz.pinned (.plain (OpenSpec.ofChange fnWriteAtSpec)) fnWriteAtCard

/-- THE TIED CARD OF 'laws.FnDropAt'. -/
def fnDropAtCard : Claim7 := { stood := { row := fnDropAtRow, standIns := [], harness := (true, "1c53d74a1ea8fe6153206c8450b47c5f4c2d373cf27a13e3e3df95c17338ceb8"), looks := false }, kinds := [], alts := [], laidByText := true, laidKinds := [.data, .pinned], laidTests := true, laidLooks := .later }
def FnDropAtCardSaid : Prop := Claim7.holds Tryz.pinned (.plain (OpenSpec.ofChange fnDropAtSpec)) fnDropAtCard

/-- THE TIED CARD OF 'laws.FnAllFiles'. -/
def fnAllFilesCard : Claim7 := { stood := { row := fnAllFilesRow, standIns := [], harness := (true, "1c53d74a1ea8fe6153206c8450b47c5f4c2d373cf27a13e3e3df95c17338ceb8"), looks := false }, kinds := [], alts := [], laidByText := true, laidKinds := [.data, .pinned], laidTests := true, laidLooks := .later }
def FnAllFilesCardSaid : Prop := Claim7.holds Tryz.pinned (.plain (OpenSpec.ofChange fnAllFilesSpec)) fnAllFilesCard

/-- THE TIED CARD OF 'laws.FnFilesNamed'. -/
def fnFilesNamedCard : Claim7 := { stood := { row := fnFilesNamedRow, standIns := [], harness := (true, "1c53d74a1ea8fe6153206c8450b47c5f4c2d373cf27a13e3e3df95c17338ceb8"), looks := false }, kinds := [], alts := [], laidByText := true, laidKinds := [.data, .pinned], laidTests := true, laidLooks := .later }
def FnFilesNamedCardSaid : Prop := Claim7.holds Tryz.pinned (.plain (OpenSpec.ofChange fnFilesNamedSpec)) fnFilesNamedCard

/-- THE SECOND FORM's CARD OF 'laws.FnEmptyRoot'. -/
def fnEmptyRootUptoCard : Claim7 := { stood := { row := fnEmptyRootUptoRow, standIns := [], harness := (true, "1c53d74a1ea8fe6153206c8450b47c5f4c2d373cf27a13e3e3df95c17338ceb8"), looks := false }, kinds := [], alts := [], laidByText := true, laidKinds := [.data, .pinned], laidTests := true, laidLooks := .later }
def FnEmptyRootUptoCardSaid : Prop := Claim7.holds Tryz.pinned (.plain (OpenSpec.upto fnEmptyRootSpec)) fnEmptyRootUptoCard

/-- THE SECOND FORM's CARD OF 'laws.FnWriteAt'. -/
def fnWriteAtUptoCard : Claim7 := { stood := { row := fnWriteAtUptoRow, standIns := [], harness := (true, "1c53d74a1ea8fe6153206c8450b47c5f4c2d373cf27a13e3e3df95c17338ceb8"), looks := false }, kinds := [], alts := [], laidByText := true, laidKinds := [.data, .pinned], laidTests := true, laidLooks := .later }
def FnWriteAtUptoCardSaid : Prop := Claim7.holds Tryz.pinned (.plain (OpenSpec.upto fnWriteAtSpec)) fnWriteAtUptoCard

/-- THE SECOND FORM's CARD OF 'laws.FnDropAt'. -/
def fnDropAtUptoCard : Claim7 := { stood := { row := fnDropAtUptoRow, standIns := [], harness := (true, "1c53d74a1ea8fe6153206c8450b47c5f4c2d373cf27a13e3e3df95c17338ceb8"), looks := false }, kinds := [], alts := [], laidByText := true, laidKinds := [.data, .pinned], laidTests := true, laidLooks := .later }
def FnDropAtUptoCardSaid : Prop := Claim7.holds Tryz.pinned (.plain (OpenSpec.upto fnDropAtSpec)) fnDropAtUptoCard

/-- THE SECOND FORM's CARD OF 'laws.FnAllFiles'. -/
def fnAllFilesUptoCard : Claim7 := { stood := { row := fnAllFilesUptoRow, standIns := [], harness := (true, "1c53d74a1ea8fe6153206c8450b47c5f4c2d373cf27a13e3e3df95c17338ceb8"), looks := false }, kinds := [], alts := [], laidByText := true, laidKinds := [.data, .pinned], laidTests := true, laidLooks := .later }
def FnAllFilesUptoCardSaid : Prop := Claim7.holds Tryz.pinned (.plain (OpenSpec.upto fnAllFilesSpec)) fnAllFilesUptoCard

/-- THE SECOND FORM's CARD OF 'laws.FnFilesNamed'. -/
def fnFilesNamedUptoCard : Claim7 := { stood := { row := fnFilesNamedUptoRow, standIns := [], harness := (true, "1c53d74a1ea8fe6153206c8450b47c5f4c2d373cf27a13e3e3df95c17338ceb8"), looks := false }, kinds := [], alts := [], laidByText := true, laidKinds := [.data, .pinned], laidTests := true, laidLooks := .later }
def FnFilesNamedUptoCardSaid : Prop := Claim7.holds Tryz.pinned (.plain (OpenSpec.upto fnFilesNamedSpec)) fnFilesNamedUptoCard
end Rows
end Go.Proofs.YtcmdfjhnfhacfaaGreatDoor
