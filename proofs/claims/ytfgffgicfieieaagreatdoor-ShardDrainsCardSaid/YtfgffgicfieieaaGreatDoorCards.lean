/-
  DERIVED. GIVEN WITH THE SEED: THE CARDS: each row of YtfgffgicfieieaaGreatDoorRows.lean that lists a variable, with what it lists TIED to the program's text (the seventh form; the later family's looks); each row that meets fmt, with fmt's text TOLD by the authors' own Lean function (tested against real Go, not proved from fmt's source: count such statements apart). THE CARD IS WHAT COUNTS. Prove the row's statement (the work); the ties are given (YtfgffgicfieieaaGreatDoorTie.lean); close each card by the builder's one call (the guide's Derived/Test/ToyasCard.lean, 'card_holds'). Laid BY PROGRAM, IN A SANDBOX (cutbox-door.mjs). By AI agents, Wed Nov 11 2026. No macro, syntax, notation, axiom, sorry.
-/
import Derived.Test.YtfgffgicfieieaaGreatDoorRows
import GoSem.ClaimSeven
namespace Go.Proofs.YtfgffgicfieieaaGreatDoor
namespace Rows

/-- THE TIED CARD OF 'weighbridgelaw06.ShardPlays'. -/
def shardPlaysCard : Claim7 := { stood := { row := shardPlaysRow, standIns := [], harness := (true, "54366cd7a8cab88fcfb17f69fae1922cb218978da292337e226842dc674c99a2"), looks := false }, kinds := [], alts := [], laidByText := true, laidKinds := [.data], laidTests := true, laidLooks := .later }
def ShardPlaysCardSaid : Prop := Claim7.holds Tryz.pinned (.plain (OpenSpec.ofChange shardPlaysSpec)) shardPlaysCard

/-- THE TIED CARD OF 'weighbridgelaw06.ShardDrains'. -/
def shardDrainsCard : Claim7 := { stood := { row := shardDrainsRow, standIns := [], harness := (true, "54366cd7a8cab88fcfb17f69fae1922cb218978da292337e226842dc674c99a2"), looks := false }, kinds := [], alts := [], laidByText := true, laidKinds := [.data], laidTests := true, laidLooks := .later }
def ShardDrainsCardSaid : Prop := Claim7.holds Tryz.pinned (.plain (OpenSpec.ofChange shardDrainsSpec)) shardDrainsCard

/-- THE TIED CARD OF 'weighbridgelaw06.ShardWidths'. -/
def shardWidthsCard : Claim7 := { stood := { row := shardWidthsRow, standIns := [], harness := (true, "54366cd7a8cab88fcfb17f69fae1922cb218978da292337e226842dc674c99a2"), looks := false }, kinds := [], alts := [], laidByText := true, laidKinds := [.data], laidTests := true, laidLooks := .later }
def ShardWidthsCardSaid : Prop := Claim7.holds Tryz.pinned (.plain (OpenSpec.ofChange shardWidthsSpec)) shardWidthsCard

/-- THE TIED CARD OF 'weighbridgelaw06.ShardApart'. -/
def shardApartCard : Claim7 := { stood := { row := shardApartRow, standIns := [], harness := (true, "54366cd7a8cab88fcfb17f69fae1922cb218978da292337e226842dc674c99a2"), looks := false }, kinds := [], alts := [], laidByText := true, laidKinds := [.data], laidTests := true, laidLooks := .later }
def ShardApartCardSaid : Prop := Claim7.holds Tryz.pinned (.plain (OpenSpec.ofChange shardApartSpec)) shardApartCard

/-- THE SECOND FORM's CARD OF 'weighbridgelaw06.ShardPlays'. -/
def shardPlaysUptoCard : Claim7 := { stood := { row := shardPlaysUptoRow, standIns := [], harness := (true, "54366cd7a8cab88fcfb17f69fae1922cb218978da292337e226842dc674c99a2"), looks := false }, kinds := [], alts := [], laidByText := true, laidKinds := [.data], laidTests := true, laidLooks := .later }
def ShardPlaysUptoCardSaid : Prop := Claim7.holds Tryz.pinned (.plain (OpenSpec.upto shardPlaysSpec)) shardPlaysUptoCard

/-- THE SECOND FORM's CARD OF 'weighbridgelaw06.ShardDrains'. -/
def shardDrainsUptoCard : Claim7 := { stood := { row := shardDrainsUptoRow, standIns := [], harness := (true, "54366cd7a8cab88fcfb17f69fae1922cb218978da292337e226842dc674c99a2"), looks := false }, kinds := [], alts := [], laidByText := true, laidKinds := [.data], laidTests := true, laidLooks := .later }
def ShardDrainsUptoCardSaid : Prop := Claim7.holds Tryz.pinned (.plain (OpenSpec.upto shardDrainsSpec)) shardDrainsUptoCard

/-- THE SECOND FORM's CARD OF 'weighbridgelaw06.ShardWidths'. -/
def shardWidthsUptoCard : Claim7 := { stood := { row := shardWidthsUptoRow, standIns := [], harness := (true, "54366cd7a8cab88fcfb17f69fae1922cb218978da292337e226842dc674c99a2"), looks := false }, kinds := [], alts := [], laidByText := true, laidKinds := [.data], laidTests := true, laidLooks := .later }
def ShardWidthsUptoCardSaid : Prop := Claim7.holds Tryz.pinned (.plain (OpenSpec.upto shardWidthsSpec)) shardWidthsUptoCard

/-- THE SECOND FORM's CARD OF 'weighbridgelaw06.ShardApart'. -/
def shardApartUptoCard : Claim7 := { stood := { row := shardApartUptoRow, standIns := [], harness := (true, "54366cd7a8cab88fcfb17f69fae1922cb218978da292337e226842dc674c99a2"), looks := false }, kinds := [], alts := [], laidByText := true, laidKinds := [.data], laidTests := true, laidLooks := .later }
def ShardApartUptoCardSaid : Prop := Claim7.holds Tryz.pinned (.plain (OpenSpec.upto shardApartSpec)) shardApartUptoCard
end Rows
end Go.Proofs.YtfgffgicfieieaaGreatDoor
