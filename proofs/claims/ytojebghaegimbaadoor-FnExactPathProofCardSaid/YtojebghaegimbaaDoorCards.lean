/-
  DERIVED. GIVEN WITH THE SEED: THE CARDS: each row of YtojebghaegimbaaDoorRows.lean that lists a variable, with what it lists TIED to the program's text (the seventh form; the later family's looks); each row that meets fmt, with fmt's text TOLD by the authors' own Lean function (tested against real Go, not proved from fmt's source: count such statements apart). THE CARD IS WHAT COUNTS. Prove the row's statement (the work); the ties are given (YtojebghaegimbaaDoorTie.lean); close each card by the builder's one call (the guide's Derived/Test/ToyasCard.lean, 'card_holds'). Laid BY PROGRAM, IN A SANDBOX (cutbox-door.mjs). By AI agents, Wed Nov 11 2026. No macro, syntax, notation, axiom, sorry.
-/
import Derived.Test.YtojebghaegimbaaDoorRows
import GoSem.ClaimSeven
namespace Go.Proofs.YtojebghaegimbaaDoor
namespace Rows

/-- THE TIED CARD OF 'laws.FnProofRight'. -/
def fnProofRightCard : Claim7 := { stood := { row := fnProofRightRow, standIns := [], harness := (true, "9fdc1f7621d76d42fc3467e2881e713503077cf775e160319034b47c253e10a5"), looks := false }, kinds := [], alts := [], laidByText := true, laidKinds := [.data, .pinned], laidTests := true, laidLooks := .later }
def FnProofRightCardSaid : Prop := Claim7.holds Tryd.pinned (.plain (OpenSpec.ofChange fnProofRightSpec)) fnProofRightCard

/-- THE TIED CARD OF 'laws.FnAbsenceRight'. -/
def fnAbsenceRightCard : Claim7 := { stood := { row := fnAbsenceRightRow, standIns := [], harness := (true, "9fdc1f7621d76d42fc3467e2881e713503077cf775e160319034b47c253e10a5"), looks := false }, kinds := [], alts := [], laidByText := true, laidKinds := [.data, .pinned], laidTests := true, laidLooks := .later }
def FnAbsenceRightCardSaid : Prop := Claim7.holds Tryd.pinned (.plain (OpenSpec.ofChange fnAbsenceRightSpec)) fnAbsenceRightCard

/-- THE TIED CARD OF 'laws.FnExactPathProof'. -/
def fnExactPathProofCard : Claim7 := { stood := { row := fnExactPathProofRow, standIns := [], harness := (true, "9fdc1f7621d76d42fc3467e2881e713503077cf775e160319034b47c253e10a5"), looks := false }, kinds := [], alts := [], laidByText := true, laidKinds := [.data, .pinned], laidTests := true, laidLooks := .later }
def FnExactPathProofCardSaid : Prop := Claim7.holds Tryd.pinned (.plain (OpenSpec.ofChange fnExactPathProofSpec)) fnExactPathProofCard

/-- THE TIED CARD OF 'laws.FnExactProofRight'. -/
def fnExactProofRightCard : Claim7 := { stood := { row := fnExactProofRightRow, standIns := [], harness := (true, "9fdc1f7621d76d42fc3467e2881e713503077cf775e160319034b47c253e10a5"), looks := false }, kinds := [], alts := [], laidByText := true, laidKinds := [.data, .pinned], laidTests := true, laidLooks := .later }
def FnExactProofRightCardSaid : Prop := Claim7.holds Tryd.pinned (.plain (OpenSpec.ofChange fnExactProofRightSpec)) fnExactProofRightCard

/-- THE TIED CARD OF 'laws.FnExactProofContent'. -/
def fnExactProofContentCard : Claim7 := { stood := { row := fnExactProofContentRow, standIns := [], harness := (true, "9fdc1f7621d76d42fc3467e2881e713503077cf775e160319034b47c253e10a5"), looks := false }, kinds := [], alts := [], laidByText := true, laidKinds := [.data, .pinned], laidTests := true, laidLooks := .later }
def FnExactProofContentCardSaid : Prop := Claim7.holds Tryd.pinned (.plain (OpenSpec.ofChange fnExactProofContentSpec)) fnExactProofContentCard

/-- THE TIED CARD OF 'laws.FnExactAbsenceProof'. -/
def fnExactAbsenceProofCard : Claim7 := { stood := { row := fnExactAbsenceProofRow, standIns := [], harness := (true, "9fdc1f7621d76d42fc3467e2881e713503077cf775e160319034b47c253e10a5"), looks := false }, kinds := [], alts := [], laidByText := true, laidKinds := [.data, .pinned], laidTests := true, laidLooks := .later }
def FnExactAbsenceProofCardSaid : Prop := Claim7.holds Tryd.pinned (.plain (OpenSpec.ofChange fnExactAbsenceProofSpec)) fnExactAbsenceProofCard

/-- THE TIED CARD OF 'laws.FnExactAbsenceRight'. -/
def fnExactAbsenceRightCard : Claim7 := { stood := { row := fnExactAbsenceRightRow, standIns := [], harness := (true, "9fdc1f7621d76d42fc3467e2881e713503077cf775e160319034b47c253e10a5"), looks := false }, kinds := [], alts := [], laidByText := true, laidKinds := [.data, .pinned], laidTests := true, laidLooks := .later }
def FnExactAbsenceRightCardSaid : Prop := Claim7.holds Tryd.pinned (.plain (OpenSpec.ofChange fnExactAbsenceRightSpec)) fnExactAbsenceRightCard

/-- THE SECOND FORM's CARD OF 'laws.FnProofRight'. -/
def fnProofRightUptoCard : Claim7 := { stood := { row := fnProofRightUptoRow, standIns := [], harness := (true, "9fdc1f7621d76d42fc3467e2881e713503077cf775e160319034b47c253e10a5"), looks := false }, kinds := [], alts := [], laidByText := true, laidKinds := [.data, .pinned], laidTests := true, laidLooks := .later }
def FnProofRightUptoCardSaid : Prop := Claim7.holds Tryd.pinned (.plain (OpenSpec.upto fnProofRightSpec)) fnProofRightUptoCard

/-- THE SECOND FORM's CARD OF 'laws.FnAbsenceRight'. -/
def fnAbsenceRightUptoCard : Claim7 := { stood := { row := fnAbsenceRightUptoRow, standIns := [], harness := (true, "9fdc1f7621d76d42fc3467e2881e713503077cf775e160319034b47c253e10a5"), looks := false }, kinds := [], alts := [], laidByText := true, laidKinds := [.data, .pinned], laidTests := true, laidLooks := .later }
def FnAbsenceRightUptoCardSaid : Prop := Claim7.holds Tryd.pinned (.plain (OpenSpec.upto fnAbsenceRightSpec)) fnAbsenceRightUptoCard

/-- THE SECOND FORM's CARD OF 'laws.FnExactPathProof'. -/
def fnExactPathProofUptoCard : Claim7 := { stood := { row := fnExactPathProofUptoRow, standIns := [], harness := (true, "9fdc1f7621d76d42fc3467e2881e713503077cf775e160319034b47c253e10a5"), looks := false }, kinds := [], alts := [], laidByText := true, laidKinds := [.data, .pinned], laidTests := true, laidLooks := .later }
def FnExactPathProofUptoCardSaid : Prop := Claim7.holds Tryd.pinned (.plain (OpenSpec.upto fnExactPathProofSpec)) fnExactPathProofUptoCard

/-- THE SECOND FORM's CARD OF 'laws.FnExactProofRight'. -/
def fnExactProofRightUptoCard : Claim7 := { stood := { row := fnExactProofRightUptoRow, standIns := [], harness := (true, "9fdc1f7621d76d42fc3467e2881e713503077cf775e160319034b47c253e10a5"), looks := false }, kinds := [], alts := [], laidByText := true, laidKinds := [.data, .pinned], laidTests := true, laidLooks := .later }
def FnExactProofRightUptoCardSaid : Prop := Claim7.holds Tryd.pinned (.plain (OpenSpec.upto fnExactProofRightSpec)) fnExactProofRightUptoCard

/-- THE SECOND FORM's CARD OF 'laws.FnExactProofContent'. -/
def fnExactProofContentUptoCard : Claim7 := { stood := { row := fnExactProofContentUptoRow, standIns := [], harness := (true, "9fdc1f7621d76d42fc3467e2881e713503077cf775e160319034b47c253e10a5"), looks := false }, kinds := [], alts := [], laidByText := true, laidKinds := [.data, .pinned], laidTests := true, laidLooks := .later }
def FnExactProofContentUptoCardSaid : Prop := Claim7.holds Tryd.pinned (.plain (OpenSpec.upto fnExactProofContentSpec)) fnExactProofContentUptoCard

/-- THE SECOND FORM's CARD OF 'laws.FnExactAbsenceProof'. -/
def fnExactAbsenceProofUptoCard : Claim7 := { stood := { row := fnExactAbsenceProofUptoRow, standIns := [], harness := (true, "9fdc1f7621d76d42fc3467e2881e713503077cf775e160319034b47c253e10a5"), looks := false }, kinds := [], alts := [], laidByText := true, laidKinds := [.data, .pinned], laidTests := true, laidLooks := .later }
def FnExactAbsenceProofUptoCardSaid : Prop := Claim7.holds Tryd.pinned (.plain (OpenSpec.upto fnExactAbsenceProofSpec)) fnExactAbsenceProofUptoCard

/-- THE SECOND FORM's CARD OF 'laws.FnExactAbsenceRight'. -/
def fnExactAbsenceRightUptoCard : Claim7 := { stood := { row := fnExactAbsenceRightUptoRow, standIns := [], harness := (true, "9fdc1f7621d76d42fc3467e2881e713503077cf775e160319034b47c253e10a5"), looks := false }, kinds := [], alts := [], laidByText := true, laidKinds := [.data, .pinned], laidTests := true, laidLooks := .later }
def FnExactAbsenceRightUptoCardSaid : Prop := Claim7.holds Tryd.pinned (.plain (OpenSpec.upto fnExactAbsenceRightSpec)) fnExactAbsenceRightUptoCard
end Rows
end Go.Proofs.YtojebghaegimbaaDoor
