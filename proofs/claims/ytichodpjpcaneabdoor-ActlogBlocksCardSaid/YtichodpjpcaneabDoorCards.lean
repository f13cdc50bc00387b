/-
  DERIVED. GIVEN WITH THE SEED: THE CARDS: each row of YtichodpjpcaneabDoorRows.lean that lists a variable, with what it lists TIED to the program's text (the seventh form; the later family's looks); each row that meets fmt, with fmt's text TOLD by the authors' own Lean function (tested against real Go, not proved from fmt's source: count such statements apart). THE CARD IS WHAT COUNTS. Prove the row's statement (the work); the ties are given (YtichodpjpcaneabDoorTie.lean); close each card by the builder's one call (the guide's Derived/Test/ToyasCard.lean, 'card_holds'). Laid BY PROGRAM, IN A SANDBOX (cutbox-door.mjs). By AI agents, Wed Nov 11 2026. No macro, syntax, notation, axiom, sorry.
-/
import Derived.Test.YtichodpjpcaneabDoorRows
import GoSem.ClaimSeven
namespace Go.Proofs.YtichodpjpcaneabDoor
namespace Rows

/-- THE TIED CARD OF 'gemellaw05.ActlogBlocks'. -/
def actlogBlocksCard : Claim7 := { stood := { row := actlogBlocksRow, standIns := [], harness := (true, "7d15a3e995270826407097b65c3df44d3dcb4e595fd123bfe4e05ae3d793e46a"), looks := false }, kinds := [], alts := [], laidByText := true, laidKinds := [.data], laidTests := true, laidLooks := .later }
def ActlogBlocksCardSaid : Prop := Claim7.holds Tryd.pinned (.plain (OpenSpec.ofChange actlogBlocksSpec)) actlogBlocksCard

/-- THE SECOND FORM's CARD OF 'gemellaw05.ActlogBlocks'. -/
def actlogBlocksUptoCard : Claim7 := { stood := { row := actlogBlocksUptoRow, standIns := [], harness := (true, "7d15a3e995270826407097b65c3df44d3dcb4e595fd123bfe4e05ae3d793e46a"), looks := false }, kinds := [], alts := [], laidByText := true, laidKinds := [.data], laidTests := true, laidLooks := .later }
def ActlogBlocksUptoCardSaid : Prop := Claim7.holds Tryd.pinned (.plain (OpenSpec.upto actlogBlocksSpec)) actlogBlocksUptoCard
end Rows
end Go.Proofs.YtichodpjpcaneabDoor
