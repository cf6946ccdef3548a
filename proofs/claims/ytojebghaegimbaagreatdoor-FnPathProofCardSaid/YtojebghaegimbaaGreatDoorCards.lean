/-
  DERIVED. GIVEN WITH THE SEED: THE CARDS: each row of YtojebghaegimbaaGreatDoorRows.lean that lists a variable, with what it lists TIED to the program's text (the seventh form; the later family's looks); each row that meets fmt, with fmt's text TOLD by the authors' own Lean function (tested against real Go, not proved from fmt's source: count such statements apart). THE CARD IS WHAT COUNTS. Prove the row's statement (the work); the ties are given (YtojebghaegimbaaGreatDoorTie.lean); close each card by the builder's one call (the guide's Derived/Test/ToyasCard.lean, 'card_holds'). Laid BY PROGRAM, IN A SANDBOX (cutbox-door.mjs). By AI agents, Wed Nov 11 2026. No macro, syntax, notation, axiom, sorry.
-/
import Derived.Test.YtojebghaegimbaaGreatDoorRows
import GoSem.ClaimSeven
namespace Go.Proofs.YtojebghaegimbaaGreatDoor
namespace Rows

/-- THE TIED CARD OF 'laws.FnPathProof'. -/
def fnPathProofCard : Claim7 := { stood := { row := fnPathProofRow, standIns := [], harness := (true, "e545269c4cb0a6052e627c1b7053beca18ca2aeb695fd86d4e8700cbfdced42a"), looks := false }, kinds := [], alts := [], laidByText := true, laidKinds := [.data, .pinned], laidTests := true, laidLooks := .later }
def FnPathProofCardSaid : Prop := Claim7.holds Tryz.pinned (.plain (OpenSpec.ofChange fnPathProofSpec)) fnPathProofCard

/-- THE TIED CARD OF 'laws.FnProofContent'. -/
def fnProofContentCard : Claim7 := { stood := { row := fnProofContentRow, standIns := [], harness := (true, "e545269c4cb0a6052e627c1b7053beca18ca2aeb695fd86d4e8700cbfdced42a"), looks := false }, kinds := [], alts := [], laidByText := true, laidKinds := [.data, .pinned], laidTests := true, laidLooks := .later }
def FnProofContentCardSaid : Prop := Claim7.holds Tryz.pinned (.plain (OpenSpec.ofChange fnProofContentSpec)) fnProofContentCard

/-- THE TIED CARD OF 'laws.FnProofsHold'. -/
def fnProofsHoldCard : Claim7 := { stood := { row := fnProofsHoldRow, standIns := [], harness := (true, "e545269c4cb0a6052e627c1b7053beca18ca2aeb695fd86d4e8700cbfdced42a"), looks := false }, kinds := [], alts := [], laidByText := true, laidKinds := [.data, .pinned], laidTests := true, laidLooks := .later }
def FnProofsHoldCardSaid : Prop := Claim7.holds Tryz.pinned (.plain (OpenSpec.ofChange fnProofsHoldSpec)) fnProofsHoldCard

/-- THE TIED CARD OF 'laws.FnAbsenceProof'. -/
def fnAbsenceProofCard : Claim7 := { stood := { row := fnAbsenceProofRow, standIns := [], harness := (true, "e545269c4cb0a6052e627c1b7053beca18ca2aeb695fd86d4e8700cbfdced42a"), looks := false }, kinds := [], alts := [], laidByText := true, laidKinds := [.data, .pinned], laidTests := true, laidLooks := .later }
def FnAbsenceProofCardSaid : Prop := Claim7.holds Tryz.pinned (.plain (OpenSpec.ofChange fnAbsenceProofSpec)) fnAbsenceProofCard

/-- THE SECOND FORM's CARD OF 'laws.FnPathProof'. -/
def fnPathProofUptoCard : Claim7 := { stood := { row := fnPathProofUptoRow, standIns := [], harness := (true, "e545269c4cb0a6052e627c1b7053beca18ca2aeb695fd86d4e8700cbfdced42a"), looks := false }, kinds := [], alts := [], laidByText := true, laidKinds := [.data, .pinned], laidTests := true, laidLooks := .later }
def FnPathProofUptoCardSaid : Prop := Claim7.holds Tryz.pinned (.plain (OpenSpec.upto fnPathProofSpec)) fnPathProofUptoCard

/-- THE SECOND FORM's CARD OF 'laws.FnProofContent'. -/
def fnProofContentUptoCard : Claim7 := { stood := { row := fnProofContentUptoRow, standIns := [], harness := (true, "e545269c4cb0a6052e627c1b7053beca18ca2aeb695fd86d4e8700cbfdced42a"), looks := false }, kinds := [], alts := [], laidByText := true, laidKinds := [.data, .pinned], laidTests := true, laidLooks := .later }
def FnProofContentUptoCardSaid : Prop := Claim7.holds Tryz.pinned (.plain (OpenSpec.upto fnProofContentSpec)) fnProofContentUptoCard

/-- THE SECOND FORM's CARD OF 'laws.FnProofsHold'. -/
def fnProofsHoldUptoCard : Claim7 := { stood := { row := fnProofsHoldUptoRow, standIns := [], harness := (true, "e545269c4cb0a6052e627c1b7053beca18ca2aeb695fd86d4e8700cbfdced42a"), looks := false }, kinds := [], alts := [], laidByText := true, laidKinds := [.data, .pinned], laidTests := true, laidLooks := .later }
def FnProofsHoldUptoCardSaid : Prop := Claim7.holds Tryz.pinned (.plain (OpenSpec.upto fnProofsHoldSpec)) fnProofsHoldUptoCard

/-- THE SECOND FORM's CARD OF 'laws.FnAbsenceProof'. -/
def fnAbsenceProofUptoCard : Claim7 := { stood := { row := fnAbsenceProofUptoRow, standIns := [], harness := (true, "e545269c4cb0a6052e627c1b7053beca18ca2aeb695fd86d4e8700cbfdced42a"), looks := false }, kinds := [], alts := [], laidByText := true, laidKinds := [.data, .pinned], laidTests := true, laidLooks := .later }
def FnAbsenceProofUptoCardSaid : Prop := Claim7.holds Tryz.pinned (.plain (OpenSpec.upto fnAbsenceProofSpec)) fnAbsenceProofUptoCard
end Rows
end Go.Proofs.YtojebghaegimbaaGreatDoor
