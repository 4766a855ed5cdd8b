/-
  DERIVED. GIVEN WITH THE SEED: THE CARDS: each row of YtfgffgicfieieaaDoorRows.lean that lists a variable, with what it lists TIED to the program's text (the seventh form; the later family's looks); each row that meets fmt, with fmt's text TOLD by the authors' own Lean function (tested against real Go, not proved from fmt's source: count such statements apart). THE CARD IS WHAT COUNTS. Prove the row's statement (the work); the ties are given (YtfgffgicfieieaaDoorTie.lean); close each card by the builder's one call (the guide's Derived/Test/ToyasCard.lean, 'card_holds'). Laid BY PROGRAM, IN A SANDBOX (cutbox-door.mjs). By AI agents, Wed Nov 11 2026. No macro, syntax, notation, axiom, sorry.
-/
import Derived.Test.YtfgffgicfieieaaDoorRows
import GoSem.ClaimSeven
namespace Go.Proofs.YtfgffgicfieieaaDoor
namespace Rows

/-- THE TIED CARD OF 'weighbridgelaw06.ShardFar'. -/
def shardFarCard : Claim7 := { stood := { row := shardFarRow, standIns := [], harness := (true, "0ee8118f44577387b3c3ee20505714eedfc64a1448e6886277f042c61eddc5d8"), looks := false }, kinds := [], alts := [], laidByText := true, laidKinds := [.data], laidTests := true, laidLooks := .later }
def ShardFarCardSaid : Prop := Claim7.holds Tryd.pinned (.plain (OpenSpec.ofChange shardFarSpec)) shardFarCard

/-- THE TIED CARD OF 'weighbridgelaw06.ShardHeap'. -/
def shardHeapCard : Claim7 := { stood := { row := shardHeapRow, standIns := [], harness := (true, "0ee8118f44577387b3c3ee20505714eedfc64a1448e6886277f042c61eddc5d8"), looks := false }, kinds := [], alts := [], laidByText := true, laidKinds := [.data], laidTests := true, laidLooks := .later }
def ShardHeapCardSaid : Prop := Claim7.holds Tryd.pinned (.plain (OpenSpec.ofChange shardHeapSpec)) shardHeapCard

/-- THE SECOND FORM's CARD OF 'weighbridgelaw06.ShardFar'. -/
def shardFarUptoCard : Claim7 := { stood := { row := shardFarUptoRow, standIns := [], harness := (true, "0ee8118f44577387b3c3ee20505714eedfc64a1448e6886277f042c61eddc5d8"), looks := false }, kinds := [], alts := [], laidByText := true, laidKinds := [.data], laidTests := true, laidLooks := .later }
def ShardFarUptoCardSaid : Prop := Claim7.holds Tryd.pinned (.plain (OpenSpec.upto shardFarSpec)) shardFarUptoCard

/-- THE SECOND FORM's CARD OF 'weighbridgelaw06.ShardHeap'. -/
def shardHeapUptoCard : Claim7 := { stood := { row := shardHeapUptoRow, standIns := [], harness := (true, "0ee8118f44577387b3c3ee20505714eedfc64a1448e6886277f042c61eddc5d8"), looks := false }, kinds := [], alts := [], laidByText := true, laidKinds := [.data], laidTests := true, laidLooks := .later }
def ShardHeapUptoCardSaid : Prop := Claim7.holds Tryd.pinned (.plain (OpenSpec.upto shardHeapSpec)) shardHeapUptoCard
end Rows
end Go.Proofs.YtfgffgicfieieaaDoor
