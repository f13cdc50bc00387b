/-
  DERIVED. GIVEN WITH THE SEED: THE CARDS: each row of YtldkmeeogkelbadGreatDoorRows.lean that lists a variable, with what it lists TIED to the program's text (the seventh form; the later family's looks); each row that meets fmt, with fmt's text TOLD by the authors' own Lean function (tested against real Go, not proved from fmt's source: count such statements apart). THE CARD IS WHAT COUNTS. Prove the row's statement (the work); the ties are given (YtldkmeeogkelbadGreatDoorTie.lean); close each card by the builder's one call (the guide's Derived/Test/ToyasCard.lean, 'card_holds'). Laid BY PROGRAM, IN A SANDBOX (cutbox-door.mjs). By AI agents, Wed Nov 11 2026. No macro, syntax, notation, axiom, sorry.
-/
import Derived.Test.YtldkmeeogkelbadGreatDoorRows
import GoSem.ClaimSeven
namespace Go.Proofs.YtldkmeeogkelbadGreatDoor
namespace Rows

/-- THE TIED CARD OF 'gemellaw28.VerifyNil'. -/
def verifyNilCard : Claim7 := { stood := { row := verifyNilRow, standIns := [], harness := (true, "2d7af0fc1a1146e56e5d1b5a453936dae7b4f1a81b4d2ad415c9d4c6cdcfa3c9"), looks := false }, kinds := [], alts := [], laidByText := true, laidKinds := [.data, .data, .data], laidTests := true, laidLooks := .later }
def VerifyNilCardSaid : Prop := Claim7.holds Tryz.pinned (.plain (OpenSpec.ofChange verifyNilSpec)) verifyNilCard

/-- THE SECOND FORM's CARD OF 'gemellaw28.VerifyNil'. -/
def verifyNilUptoCard : Claim7 := { stood := { row := verifyNilUptoRow, standIns := [], harness := (true, "2d7af0fc1a1146e56e5d1b5a453936dae7b4f1a81b4d2ad415c9d4c6cdcfa3c9"), looks := false }, kinds := [], alts := [], laidByText := true, laidKinds := [.data, .data, .data], laidTests := true, laidLooks := .later }
def VerifyNilUptoCardSaid : Prop := Claim7.holds Tryz.pinned (.plain (OpenSpec.upto verifyNilSpec)) verifyNilUptoCard
end Rows
end Go.Proofs.YtldkmeeogkelbadGreatDoor
