/-
  DERIVED. GIVEN WITH THE SEED: THE CARDS: each row of YtldkmeeogkelbacGreatDoorRows.lean that lists a variable, with what it lists TIED to the program's text (the seventh form; the later family's looks); each row that meets fmt, with fmt's text TOLD by the authors' own Lean function (tested against real Go, not proved from fmt's source: count such statements apart). THE CARD IS WHAT COUNTS. Prove the row's statement (the work); the ties are given (YtldkmeeogkelbacGreatDoorTie.lean); close each card by the builder's one call (the guide's Derived/Test/ToyasCard.lean, 'card_holds'). Laid BY PROGRAM, IN A SANDBOX (cutbox-door.mjs). By AI agents, Wed Nov 11 2026. No macro, syntax, notation, axiom, sorry.
-/
import Derived.Test.YtldkmeeogkelbacGreatDoorRows
import GoSem.ClaimSeven
namespace Go.Proofs.YtldkmeeogkelbacGreatDoor
namespace Rows

/-- THE TIED CARD OF 'gemellaw19.ResyncNil'. -/
def resyncNilCard : Claim7 := { stood := { row := resyncNilRow, standIns := [], harness := (true, "e60ba48266eb34f90ad548ac2ae87c56e239a61a9ab9e7ce4db0ad94b131ab43"), looks := false }, kinds := [], alts := [], laidByText := true, laidKinds := [.data, .data, .data], laidTests := true, laidLooks := .later }
def ResyncNilCardSaid : Prop := Claim7.holds Tryz.pinned (.plain (OpenSpec.ofChange resyncNilSpec)) resyncNilCard

/-- THE SECOND FORM's CARD OF 'gemellaw19.ResyncNil'. -/
def resyncNilUptoCard : Claim7 := { stood := { row := resyncNilUptoRow, standIns := [], harness := (true, "e60ba48266eb34f90ad548ac2ae87c56e239a61a9ab9e7ce4db0ad94b131ab43"), looks := false }, kinds := [], alts := [], laidByText := true, laidKinds := [.data, .data, .data], laidTests := true, laidLooks := .later }
def ResyncNilUptoCardSaid : Prop := Claim7.holds Tryz.pinned (.plain (OpenSpec.upto resyncNilSpec)) resyncNilUptoCard
end Rows
end Go.Proofs.YtldkmeeogkelbacGreatDoor
