/-
  DERIVED. GIVEN WITH THE SEED: THE CARDS: each row of YtcfffmfknpgcoaaDoorRows.lean that lists a variable, with what it lists TIED to the program's text (the seventh form; the later family's looks); each row that meets fmt, with fmt's text TOLD by the authors' own Lean function (tested against real Go, not proved from fmt's source: count such statements apart). THE CARD IS WHAT COUNTS. Prove the row's statement (the work); the ties are given (YtcfffmfknpgcoaaDoorTie.lean); close each card by the builder's one call (the guide's Derived/Test/ToyasCard.lean, 'card_holds'). Laid BY PROGRAM, IN A SANDBOX (cutbox-door.mjs). By AI agents, Wed Nov 11 2026. No macro, syntax, notation, axiom, sorry.
-/
import Derived.Test.YtcfffmfknpgcoaaDoorRows
import GoSem.ClaimSeven
namespace Go.Proofs.YtcfffmfknpgcoaaDoor
namespace Rows

/-- THE TIED CARD OF 'linklaw.Synced'. -/
def syncedCard : Claim7 := { stood := { row := syncedRow, standIns := [], harness := (true, "e2bc1b402e309e56e5c10f08d67a7cc47fc6629598bbb8f8ddca7c7b59767330"), looks := false }, kinds := [], alts := [], laidByText := true, laidKinds := [.data], laidTests := true, laidLooks := .later }
def SyncedCardSaid : Prop := Claim7.holds Tryd.pinned (.plain (OpenSpec.ofChange syncedSpec)) syncedCard

/-- THE SECOND FORM's CARD OF 'linklaw.Synced'. -/
def syncedUptoCard : Claim7 := { stood := { row := syncedUptoRow, standIns := [], harness := (true, "e2bc1b402e309e56e5c10f08d67a7cc47fc6629598bbb8f8ddca7c7b59767330"), looks := false }, kinds := [], alts := [], laidByText := true, laidKinds := [.data], laidTests := true, laidLooks := .later }
def SyncedUptoCardSaid : Prop := Claim7.holds Tryd.pinned (.plain (OpenSpec.upto syncedSpec)) syncedUptoCard
end Rows
end Go.Proofs.YtcfffmfknpgcoaaDoor
