/-
  DERIVED. GIVEN WITH THE SEED: THE CARDS: each row of YtajhkdbldbifeaaDoorRows.lean that lists a variable, with what it lists TIED to the program's text (the seventh form; the later family's looks); each row that meets fmt, with fmt's text TOLD by the authors' own Lean function (tested against real Go, not proved from fmt's source: count such statements apart). THE CARD IS WHAT COUNTS. Prove the row's statement (the work); the ties are given (YtajhkdbldbifeaaDoorTie.lean); close each card by the builder's one call (the guide's Derived/Test/ToyasCard.lean, 'card_holds'). Laid BY PROGRAM, IN A SANDBOX (cutbox-door.mjs). By AI agents, Wed Nov 11 2026. No macro, syntax, notation, axiom, sorry.
-/
import Derived.Test.YtajhkdbldbifeaaDoorRows
import GoSem.ClaimSeven
namespace Go.Proofs.YtajhkdbldbifeaaDoor
namespace Rows

/-- THE TIED CARD OF 'weighbridgelaw08.QueueIDs'. -/
def queueIDsCard : Claim7 := { stood := { row := queueIDsRow, standIns := [], harness := (true, "6a8ab1c6ea76440a140938739fe796259254b946e0dea1e9cd0616ea3eef1dfd"), looks := false }, kinds := [], alts := [], laidByText := true, laidKinds := [.data], laidTests := true, laidLooks := .later }
def QueueIDsCardSaid : Prop := Claim7.holds Tryd.pinned (.plain (OpenSpec.ofChange queueIDsSpec)) queueIDsCard

/-- THE SECOND FORM's CARD OF 'weighbridgelaw08.QueueIDs'. -/
def queueIDsUptoCard : Claim7 := { stood := { row := queueIDsUptoRow, standIns := [], harness := (true, "6a8ab1c6ea76440a140938739fe796259254b946e0dea1e9cd0616ea3eef1dfd"), looks := false }, kinds := [], alts := [], laidByText := true, laidKinds := [.data], laidTests := true, laidLooks := .later }
def QueueIDsUptoCardSaid : Prop := Claim7.holds Tryd.pinned (.plain (OpenSpec.upto queueIDsSpec)) queueIDsUptoCard
end Rows
end Go.Proofs.YtajhkdbldbifeaaDoor
