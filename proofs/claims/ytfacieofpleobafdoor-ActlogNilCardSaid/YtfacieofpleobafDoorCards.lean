/-
  DERIVED. GIVEN WITH THE SEED: THE CARDS: each row of YtfacieofpleobafDoorRows.lean that lists a variable, with what it lists TIED to the program's text (the seventh form; the later family's looks); each row that meets fmt, with fmt's text TOLD by the authors' own Lean function (tested against real Go, not proved from fmt's source: count such statements apart). THE CARD IS WHAT COUNTS. Prove the row's statement (the work); the ties are given (YtfacieofpleobafDoorTie.lean); close each card by the builder's one call (the guide's Derived/Test/ToyasCard.lean, 'card_holds'). Laid BY PROGRAM, IN A SANDBOX (cutbox-door.mjs). By AI agents, Wed Nov 11 2026. No macro, syntax, notation, axiom, sorry.
-/
import Derived.Test.YtfacieofpleobafDoorRows
import GoSem.ClaimSeven
namespace Go.Proofs.YtfacieofpleobafDoor
namespace Rows

/-- THE TIED CARD OF 'gemellaw05.ActlogNil'. -/
def actlogNilCard : Claim7 := { stood := { row := actlogNilRow, standIns := [], harness := (true, "b204ab6c72dbba10cb68bcde8694862d97c773b9afe87f7d22b54434f21f5b01"), looks := false }, kinds := [], alts := [], laidByText := true, laidKinds := [.data], laidTests := true, laidLooks := .later }
def ActlogNilCardSaid : Prop := Claim7.holds Tryd.pinned (.plain (OpenSpec.ofChange actlogNilSpec)) actlogNilCard

/-- THE SECOND FORM's CARD OF 'gemellaw05.ActlogNil'. -/
def actlogNilUptoCard : Claim7 := { stood := { row := actlogNilUptoRow, standIns := [], harness := (true, "b204ab6c72dbba10cb68bcde8694862d97c773b9afe87f7d22b54434f21f5b01"), looks := false }, kinds := [], alts := [], laidByText := true, laidKinds := [.data], laidTests := true, laidLooks := .later }
def ActlogNilUptoCardSaid : Prop := Claim7.holds Tryd.pinned (.plain (OpenSpec.upto actlogNilSpec)) actlogNilUptoCard
end Rows
end Go.Proofs.YtfacieofpleobafDoor
