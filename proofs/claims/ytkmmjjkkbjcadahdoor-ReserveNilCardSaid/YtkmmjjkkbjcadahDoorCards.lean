/-
  DERIVED. GIVEN WITH THE SEED: THE CARDS: each row of YtkmmjjkkbjcadahDoorRows.lean that lists a variable, with what it lists TIED to the program's text (the seventh form; the later family's looks); each row that meets fmt, with fmt's text TOLD by the authors' own Lean function (tested against real Go, not proved from fmt's source: count such statements apart). THE CARD IS WHAT COUNTS. Prove the row's statement (the work); the ties are given (YtkmmjjkkbjcadahDoorTie.lean); close each card by the builder's one call (the guide's Derived/Test/ToyasCard.lean, 'card_holds'). Laid BY PROGRAM, IN A SANDBOX (cutbox-door.mjs). By AI agents, Wed Nov 11 2026. No macro, syntax, notation, axiom, sorry.
-/
import Derived.Test.YtkmmjjkkbjcadahDoorRows
import GoSem.ClaimSeven
namespace Go.Proofs.YtkmmjjkkbjcadahDoor
namespace Rows

/-- THE TIED CARD OF 'gemellaw11.ReserveNil'. -/
def reserveNilCard : Claim7 := { stood := { row := reserveNilRow, standIns := [], harness := (true, "a85ddecc1c1f9e2ec0721b1dc1a1170a0bb2d76f4f6c8092e23c0347509e7768"), looks := false }, kinds := [], alts := [], laidByText := true, laidKinds := [.data], laidTests := true, laidLooks := .later }
def ReserveNilCardSaid : Prop := Claim7.holds Tryd.pinned (.plain (OpenSpec.ofChange reserveNilSpec)) reserveNilCard

/-- THE SECOND FORM's CARD OF 'gemellaw11.ReserveNil'. -/
def reserveNilUptoCard : Claim7 := { stood := { row := reserveNilUptoRow, standIns := [], harness := (true, "a85ddecc1c1f9e2ec0721b1dc1a1170a0bb2d76f4f6c8092e23c0347509e7768"), looks := false }, kinds := [], alts := [], laidByText := true, laidKinds := [.data], laidTests := true, laidLooks := .later }
def ReserveNilUptoCardSaid : Prop := Claim7.holds Tryd.pinned (.plain (OpenSpec.upto reserveNilSpec)) reserveNilUptoCard
end Rows
end Go.Proofs.YtkmmjjkkbjcadahDoor
