/-
  DERIVED. GIVEN WITH THE SEED: THE CARDS: each row of YtikmmhccgmmneaaGreatDoorRows.lean that lists a variable, with what it lists TIED to the program's text (the seventh form; the later family's looks); each row that meets fmt, with fmt's text TOLD by the authors' own Lean function (tested against real Go, not proved from fmt's source: count such statements apart). THE CARD IS WHAT COUNTS. Prove the row's statement (the work); the ties are given (YtikmmhccgmmneaaGreatDoorTie.lean); close each card by the builder's one call (the guide's Derived/Test/ToyasCard.lean, 'card_holds'). Laid BY PROGRAM, IN A SANDBOX (cutbox-door.mjs). By AI agents, Wed Nov 11 2026. No macro, syntax, notation, axiom, sorry.
-/
import Derived.Test.YtikmmhccgmmneaaGreatDoorRows
import GoSem.ClaimSeven
namespace Go.Proofs.YtikmmhccgmmneaaGreatDoor
namespace Rows

/-- THE TIED CARD OF 'laws.FnReadAt'. -/
def fnReadAtCard : Claim7 := { stood := { row := fnReadAtRow, standIns := [], harness := (true, "2d6f1c1dea605d2be16acb74405b98336cd0c654725e1b89c1653994293f3d5b"), looks := false }, kinds := [], alts := [], laidByText := true, laidKinds := [.data, .pinned], laidTests := true, laidLooks := .later }
def FnReadAtCardSaid : Prop := Claim7.holds Tryz.pinned (.plain (OpenSpec.ofChange fnReadAtSpec)) fnReadAtCard

/-- THE TIED CARD OF 'laws.FnNamesAt'. -/
def fnNamesAtCard : Claim7 := { stood := { row := fnNamesAtRow, standIns := [], harness := (true, "2d6f1c1dea605d2be16acb74405b98336cd0c654725e1b89c1653994293f3d5b"), looks := false }, kinds := [], alts := [], laidByText := true, laidKinds := [.data, .pinned], laidTests := true, laidLooks := .later }
def FnNamesAtCardSaid : Prop := Claim7.holds Tryz.pinned (.plain (OpenSpec.ofChange fnNamesAtSpec)) fnNamesAtCard

/-- THE SECOND FORM's CARD OF 'laws.FnReadAt'. -/
def fnReadAtUptoCard : Claim7 := { stood := { row := fnReadAtUptoRow, standIns := [], harness := (true, "2d6f1c1dea605d2be16acb74405b98336cd0c654725e1b89c1653994293f3d5b"), looks := false }, kinds := [], alts := [], laidByText := true, laidKinds := [.data, .pinned], laidTests := true, laidLooks := .later }
def FnReadAtUptoCardSaid : Prop := Claim7.holds Tryz.pinned (.plain (OpenSpec.upto fnReadAtSpec)) fnReadAtUptoCard

/-- THE SECOND FORM's CARD OF 'laws.FnNamesAt'. -/
def fnNamesAtUptoCard : Claim7 := { stood := { row := fnNamesAtUptoRow, standIns := [], harness := (true, "2d6f1c1dea605d2be16acb74405b98336cd0c654725e1b89c1653994293f3d5b"), looks := false }, kinds := [], alts := [], laidByText := true, laidKinds := [.data, .pinned], laidTests := true, laidLooks := .later }
def FnNamesAtUptoCardSaid : Prop := Claim7.holds Tryz.pinned (.plain (OpenSpec.upto fnNamesAtSpec)) fnNamesAtUptoCard
end Rows
end Go.Proofs.YtikmmhccgmmneaaGreatDoor
