/-
  DERIVED. GIVEN WITH THE SEED: THE CARDS: each row of YtbkpdapagfjmmaaDoorRows.lean that lists a variable, with what it lists TIED to the program's text (the seventh form; the later family's looks); each row that meets fmt, with fmt's text TOLD by the authors' own Lean function (tested against real Go, not proved from fmt's source: count such statements apart). THE CARD IS WHAT COUNTS. Prove the row's statement (the work); the ties are given (YtbkpdapagfjmmaaDoorTie.lean); close each card by the builder's one call (the guide's Derived/Test/ToyasCard.lean, 'card_holds'). Laid BY PROGRAM, IN A SANDBOX (cutbox-door.mjs). By AI agents, Wed Nov 11 2026. No macro, syntax, notation, axiom, sorry.
-/
import Derived.Test.YtbkpdapagfjmmaaDoorRows
import GoSem.ClaimSeven
namespace Go.Proofs.YtbkpdapagfjmmaaDoor
namespace Rows

/-- THE TIED CARD OF 'linklaw.Synced'. -/
def syncedCard : Claim7 := { stood := { row := syncedRow, standIns := [], harness := (true, "8b29da97525a806ed621a4a94eca629799805fefb4e04073b954508d6823ade5"), looks := false }, kinds := [], alts := [], laidByText := true, laidKinds := [.data], laidTests := true, laidLooks := .later }
def SyncedCardSaid : Prop := Claim7.holds Tryd.pinned (.plain (OpenSpec.ofChange syncedSpec)) syncedCard

/-- THE TIED CARD OF 'linklaw.Hostile'. -/
def hostileCard : Claim7 := { stood := { row := hostileRow, standIns := [], harness := (true, "8b29da97525a806ed621a4a94eca629799805fefb4e04073b954508d6823ade5"), looks := false }, kinds := [], alts := [], laidByText := true, laidKinds := [.data], laidTests := true, laidLooks := .later }
def HostileCardSaid : Prop := Claim7.holds Tryd.pinned (.plain (OpenSpec.ofChange hostileSpec)) hostileCard

/-- THE SECOND FORM's CARD OF 'linklaw.Synced'. -/
def syncedUptoCard : Claim7 := { stood := { row := syncedUptoRow, standIns := [], harness := (true, "8b29da97525a806ed621a4a94eca629799805fefb4e04073b954508d6823ade5"), looks := false }, kinds := [], alts := [], laidByText := true, laidKinds := [.data], laidTests := true, laidLooks := .later }
def SyncedUptoCardSaid : Prop := Claim7.holds Tryd.pinned (.plain (OpenSpec.upto syncedSpec)) syncedUptoCard

/-- THE SECOND FORM's CARD OF 'linklaw.Hostile'. -/
def hostileUptoCard : Claim7 := { stood := { row := hostileUptoRow, standIns := [], harness := (true, "8b29da97525a806ed621a4a94eca629799805fefb4e04073b954508d6823ade5"), looks := false }, kinds := [], alts := [], laidByText := true, laidKinds := [.data], laidTests := true, laidLooks := .later }
def HostileUptoCardSaid : Prop := Claim7.holds Tryd.pinned (.plain (OpenSpec.upto hostileSpec)) hostileUptoCard
end Rows
end Go.Proofs.YtbkpdapagfjmmaaDoor
