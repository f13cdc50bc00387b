/-
  DERIVED. GIVEN WITH THE SEED: THE CARDS: each row of YtfacieofpleobaeDoorRows.lean that lists a variable, with what it lists TIED to the program's text (the seventh form; the later family's looks); each row that meets fmt, with fmt's text TOLD by the authors' own Lean function (tested against real Go, not proved from fmt's source: count such statements apart). THE CARD IS WHAT COUNTS. Prove the row's statement (the work); the ties are given (YtfacieofpleobaeDoorTie.lean); close each card by the builder's one call (the guide's Derived/Test/ToyasCard.lean, 'card_holds'). Laid BY PROGRAM, IN A SANDBOX (cutbox-door.mjs). By AI agents, Wed Nov 11 2026. No macro, syntax, notation, axiom, sorry.
-/
import Derived.Test.YtfacieofpleobaeDoorRows
import GoSem.ClaimSeven
namespace Go.Proofs.YtfacieofpleobaeDoor
namespace Rows

/-- THE TIED CARD OF 'gemellaw04.SuperNil'. -/
def superNilCard : Claim7 := { stood := { row := superNilRow, standIns := [], harness := (true, "e5da8d9ec25a909803cc1fc1f01eea79092e572c6a3e7cde235b0da6ebf65f37"), looks := false }, kinds := [], alts := [], laidByText := true, laidKinds := [.data], laidTests := true, laidLooks := .later }
def SuperNilCardSaid : Prop := Claim7.holds Tryd.pinned (.plain (OpenSpec.ofChange superNilSpec)) superNilCard

/-- THE SECOND FORM's CARD OF 'gemellaw04.SuperNil'. -/
def superNilUptoCard : Claim7 := { stood := { row := superNilUptoRow, standIns := [], harness := (true, "e5da8d9ec25a909803cc1fc1f01eea79092e572c6a3e7cde235b0da6ebf65f37"), looks := false }, kinds := [], alts := [], laidByText := true, laidKinds := [.data], laidTests := true, laidLooks := .later }
def SuperNilUptoCardSaid : Prop := Claim7.holds Tryd.pinned (.plain (OpenSpec.upto superNilSpec)) superNilUptoCard
end Rows
end Go.Proofs.YtfacieofpleobaeDoor
