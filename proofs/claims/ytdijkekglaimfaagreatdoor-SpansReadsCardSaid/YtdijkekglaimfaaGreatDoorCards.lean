/-
  DERIVED. GIVEN WITH THE SEED: THE CARDS: each row of YtdijkekglaimfaaGreatDoorRows.lean that lists a variable, with what it lists TIED to the program's text (the seventh form; the later family's looks); each row that meets fmt, with fmt's text TOLD by the authors' own Lean function (tested against real Go, not proved from fmt's source: count such statements apart). THE CARD IS WHAT COUNTS. Prove the row's statement (the work); the ties are given (YtdijkekglaimfaaGreatDoorTie.lean); close each card by the builder's one call (the guide's Derived/Test/ToyasCard.lean, 'card_holds'). Laid BY PROGRAM, IN A SANDBOX (cutbox-door.mjs). By AI agents, Wed Nov 11 2026. No macro, syntax, notation, axiom, sorry.
-/
import Derived.Test.YtdijkekglaimfaaGreatDoorRows
import GoSem.ClaimSeven
namespace Go.Proofs.YtdijkekglaimfaaGreatDoor
namespace Rows

/-- THE TIED CARD OF 'cooperlaw03.SpansReads'. -/
def spansReadsCard : Claim7 := { stood := { row := spansReadsRow, standIns := [], harness := (true, "403cb621c1def74d50d888e77f8f61d075daa65a63aa0f85b7207d973d308752"), looks := false }, kinds := [], alts := [], laidByText := true, laidKinds := [.data, .pinned], laidTests := true, laidLooks := .later }
def SpansReadsCardSaid : Prop := Claim7.holds Tryz.pinned (.plain (OpenSpec.ofChange spansReadsSpec)) spansReadsCard

/-- THE SECOND FORM's CARD OF 'cooperlaw03.SpansReads'. -/
def spansReadsUptoCard : Claim7 := { stood := { row := spansReadsUptoRow, standIns := [], harness := (true, "403cb621c1def74d50d888e77f8f61d075daa65a63aa0f85b7207d973d308752"), looks := false }, kinds := [], alts := [], laidByText := true, laidKinds := [.data, .pinned], laidTests := true, laidLooks := .later }
def SpansReadsUptoCardSaid : Prop := Claim7.holds Tryz.pinned (.plain (OpenSpec.upto spansReadsSpec)) spansReadsUptoCard
end Rows
end Go.Proofs.YtdijkekglaimfaaGreatDoor
