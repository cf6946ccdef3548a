/-
  DERIVED. GIVEN WITH THE SEED: THE CARDS: each row of YtglajbmopiolhaaDoorRows.lean that lists a variable, with what it lists TIED to the program's text (the seventh form; the later family's looks); each row that meets fmt, with fmt's text TOLD by the authors' own Lean function (tested against real Go, not proved from fmt's source: count such statements apart). THE CARD IS WHAT COUNTS. Prove the row's statement (the work); the ties are given (YtglajbmopiolhaaDoorTie.lean); close each card by the builder's one call (the guide's Derived/Test/ToyasCard.lean, 'card_holds'). Laid BY PROGRAM, IN A SANDBOX (cutbox-door.mjs). By AI agents, Wed Nov 11 2026. No macro, syntax, notation, axiom, sorry.
-/
import Derived.Test.YtglajbmopiolhaaDoorRows
import GoSem.ClaimSeven
namespace Go.Proofs.YtglajbmopiolhaaDoor
namespace Rows

/-- THE TIED CARD OF 'laws.FnExactSameFiles'. -/
def fnExactSameFilesCard : Claim7 := { stood := { row := fnExactSameFilesRow, standIns := [], harness := (true, "bf9f7f8e4e810d5c0f78b8127d5bfa5ec6985a2857b65fc171337e7c5d83efde"), looks := false }, kinds := [], alts := [], laidByText := true, laidKinds := [.data, .pinned], laidTests := true, laidLooks := .later }
def FnExactSameFilesCardSaid : Prop := Claim7.holds Tryd.pinned (.plain (OpenSpec.ofChange fnExactSameFilesSpec)) fnExactSameFilesCard

/-- THE SECOND FORM's CARD OF 'laws.FnExactSameFiles'. -/
def fnExactSameFilesUptoCard : Claim7 := { stood := { row := fnExactSameFilesUptoRow, standIns := [], harness := (true, "bf9f7f8e4e810d5c0f78b8127d5bfa5ec6985a2857b65fc171337e7c5d83efde"), looks := false }, kinds := [], alts := [], laidByText := true, laidKinds := [.data, .pinned], laidTests := true, laidLooks := .later }
def FnExactSameFilesUptoCardSaid : Prop := Claim7.holds Tryd.pinned (.plain (OpenSpec.upto fnExactSameFilesSpec)) fnExactSameFilesUptoCard
end Rows
end Go.Proofs.YtglajbmopiolhaaDoor
