/-
  DERIVED. GIVEN WITH THE SEED: THE CARDS: each row of YtichodpjpcaneacDoorRows.lean that lists a variable, with what it lists TIED to the program's text (the seventh form; the later family's looks); each row that meets fmt, with fmt's text TOLD by the authors' own Lean function (tested against real Go, not proved from fmt's source: count such statements apart). THE CARD IS WHAT COUNTS. Prove the row's statement (the work); the ties are given (YtichodpjpcaneacDoorTie.lean); close each card by the builder's one call (the guide's Derived/Test/ToyasCard.lean, 'card_holds'). Laid BY PROGRAM, IN A SANDBOX (cutbox-door.mjs). By AI agents, Wed Nov 11 2026. No macro, syntax, notation, axiom, sorry.
-/
import Derived.Test.YtichodpjpcaneacDoorRows
import GoSem.ClaimSeven
namespace Go.Proofs.YtichodpjpcaneacDoor
namespace Rows

/-- THE TIED CARD OF 'gemellaw06.MapBlocks'. -/
def mapBlocksCard : Claim7 := { stood := { row := mapBlocksRow, standIns := [], harness := (true, "0746abff5df1f2bc961c854959e02aed48231b358d84ec742cb681bbbdeacf71"), looks := false }, kinds := [], alts := [], laidByText := true, laidKinds := [.data], laidTests := true, laidLooks := .later }
def MapBlocksCardSaid : Prop := Claim7.holds Tryd.pinned (.plain (OpenSpec.ofChange mapBlocksSpec)) mapBlocksCard

/-- THE SECOND FORM's CARD OF 'gemellaw06.MapBlocks'. -/
def mapBlocksUptoCard : Claim7 := { stood := { row := mapBlocksUptoRow, standIns := [], harness := (true, "0746abff5df1f2bc961c854959e02aed48231b358d84ec742cb681bbbdeacf71"), looks := false }, kinds := [], alts := [], laidByText := true, laidKinds := [.data], laidTests := true, laidLooks := .later }
def MapBlocksUptoCardSaid : Prop := Claim7.holds Tryd.pinned (.plain (OpenSpec.upto mapBlocksSpec)) mapBlocksUptoCard
end Rows
end Go.Proofs.YtichodpjpcaneacDoor
