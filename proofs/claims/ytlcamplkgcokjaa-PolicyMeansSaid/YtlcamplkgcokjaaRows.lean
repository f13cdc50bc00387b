/-
  No cell of these rows narrows 'for every input' (looked for: loops, veiled, ifaces, maps, wideKeys, modest, calm, conditions, laid).
  DERIVED. THE GIVEN ROWS OF THIS SEAT. 10 by the template 'for every input the law returns true; each argument reads behind the call as it read before'; 0 by the template 'total and deterministic' (their statements: YtlcamplkgcokjaaTotals.lean).
  GIVEN WITH THE SEED: the statements are not yours to turn. If you find one false, say at which input.
  Laid BY PROGRAM, IN A SANDBOX (cutbox-rows.mjs): the forced cells as the released guide's own fill.sh prints them over the translation a670c105c30ef382… (all of the seat's roots in one cut). By AI agents, Wed Nov 11 2026. No macro, syntax, notation, axiom, sorry.
-/
import Derived.Test.YtlcamplkgcokjaaChecked
import GoSem.Claim
import GoSem.ClaimJoined
import GoSem.ClaimMapViews
import Derived.JoinedTies
import Derived.KernelRfl
namespace Go.Proofs.Ytlcamplkgcokjaa
/- THE CELL 'sum', in the pinned program and in every row, IS THE sha256 OF THE DUMP (.gsa) THAT YtlcamplkgcokjaaProg.lean LOADS. Nothing in Lean hashes anything: it is a label: what it is worth is what the hold of that sum in a sandbox is worth. -/
noncomputable def Try.pinned : Pinned := { name := "ytlcamplkgcokjaa", sum := "a670c105c30ef3821685a32e03b91cda02afdf16f1a194d74cae048472b764de", checked := Try.checked }
namespace Rows
def none {H : Type} : Left H := { results := [], args := [] }

/-- 'gemellaw07.UuidMeans': WHATEVER THE INPUT: true; the input reads as it did. -/
def uuidMeansSpec : ChangeSpec := { name := "uuidMeans", fn := fun _ => fun
  | [d1, d2] => { results := [.lit (.bool true)], args := [d1, d2] }
  | _ => none }
def uuidMeansRow : OpenClaim := { program := "ytlcamplkgcokjaa", sum := "a670c105c30ef3821685a32e03b91cda02afdf16f1a194d74cae048472b764de", func := "gemel/gemellaw07.UuidMeans", spec := "uuidMeans", apart := false }
def UuidMeansSaid : Prop := uuidMeansRow.holds Try.pinned (OpenSpec.ofChange uuidMeansSpec)

/-- ITS FALSE NEIGHBOUR: 'it returns false'. Refute it at one input. -/
def uuidMeansWrong : ChangeSpec := { name := "uuidMeans", fn := fun _ => fun
  | [d1, d2] => { results := [.lit (.bool false)], args := [d1, d2] }
  | _ => none }
def UuidMeansWrongFalsely : Prop := uuidMeansRow.holds Try.pinned (OpenSpec.ofChange uuidMeansWrong)

/-- 'gemellaw07.UuidTurns': WHATEVER THE INPUT: true; the input reads as it did. -/
def uuidTurnsSpec : ChangeSpec := { name := "uuidTurns", fn := fun _ => fun
  | [d1, d2, d3] => { results := [.lit (.bool true)], args := [d1, d2, d3] }
  | _ => none }
def uuidTurnsRow : OpenClaim := { program := "ytlcamplkgcokjaa", sum := "a670c105c30ef3821685a32e03b91cda02afdf16f1a194d74cae048472b764de", func := "gemel/gemellaw07.UuidTurns", spec := "uuidTurns", apart := false }
def UuidTurnsSaid : Prop := uuidTurnsRow.holds Try.pinned (OpenSpec.ofChange uuidTurnsSpec)

/-- ITS FALSE NEIGHBOUR: 'it returns false'. Refute it at one input. -/
def uuidTurnsWrong : ChangeSpec := { name := "uuidTurns", fn := fun _ => fun
  | [d1, d2, d3] => { results := [.lit (.bool false)], args := [d1, d2, d3] }
  | _ => none }
def UuidTurnsWrongFalsely : Prop := uuidTurnsRow.holds Try.pinned (OpenSpec.ofChange uuidTurnsWrong)

/-- 'gemellaw07.UuidMoves': WHATEVER THE INPUT: true; the input reads as it did. -/
def uuidMovesSpec : ChangeSpec := { name := "uuidMoves", fn := fun _ => fun
  | [d1, d2] => { results := [.lit (.bool true)], args := [d1, d2] }
  | _ => none }
def uuidMovesRow : OpenClaim := { program := "ytlcamplkgcokjaa", sum := "a670c105c30ef3821685a32e03b91cda02afdf16f1a194d74cae048472b764de", func := "gemel/gemellaw07.UuidMoves", spec := "uuidMoves", apart := false }
def UuidMovesSaid : Prop := uuidMovesRow.holds Try.pinned (OpenSpec.ofChange uuidMovesSpec)

/-- ITS FALSE NEIGHBOUR: 'it returns false'. Refute it at one input. -/
def uuidMovesWrong : ChangeSpec := { name := "uuidMoves", fn := fun _ => fun
  | [d1, d2] => { results := [.lit (.bool false)], args := [d1, d2] }
  | _ => none }
def UuidMovesWrongFalsely : Prop := uuidMovesRow.holds Try.pinned (OpenSpec.ofChange uuidMovesWrong)

/-- 'gemellaw07.UuidTree': WHATEVER THE INPUT: true; the input reads as it did. -/
def uuidTreeSpec : ChangeSpec := { name := "uuidTree", fn := fun _ => fun
  | [d] => { results := [.lit (.bool true)], args := [d] }
  | _ => none }
def uuidTreeRow : OpenClaim := { program := "ytlcamplkgcokjaa", sum := "a670c105c30ef3821685a32e03b91cda02afdf16f1a194d74cae048472b764de", func := "gemel/gemellaw07.UuidTree", spec := "uuidTree", apart := false }
def UuidTreeSaid : Prop := uuidTreeRow.holds Try.pinned (OpenSpec.ofChange uuidTreeSpec)

/-- ITS FALSE NEIGHBOUR: 'it returns false'. Refute it at one input. -/
def uuidTreeWrong : ChangeSpec := { name := "uuidTree", fn := fun _ => fun
  | [d] => { results := [.lit (.bool false)], args := [d] }
  | _ => none }
def UuidTreeWrongFalsely : Prop := uuidTreeRow.holds Try.pinned (OpenSpec.ofChange uuidTreeWrong)

/-- 'gemellaw16.PolicyMeans': WHATEVER THE INPUT: true; the input reads as it did. -/
def policyMeansSpec : ChangeSpec := { name := "policyMeans", fn := fun _ => fun
  | [d1, d2, d3] => { results := [.lit (.bool true)], args := [d1, d2, d3] }
  | _ => none }
def policyMeansRow : OpenClaim := { program := "ytlcamplkgcokjaa", sum := "a670c105c30ef3821685a32e03b91cda02afdf16f1a194d74cae048472b764de", func := "gemel/gemellaw16.PolicyMeans", spec := "policyMeans", apart := false }
def PolicyMeansSaid : Prop := policyMeansRow.holds Try.pinned (OpenSpec.ofChange policyMeansSpec)

/-- ITS FALSE NEIGHBOUR: 'it returns false'. Refute it at one input. -/
def policyMeansWrong : ChangeSpec := { name := "policyMeans", fn := fun _ => fun
  | [d1, d2, d3] => { results := [.lit (.bool false)], args := [d1, d2, d3] }
  | _ => none }
def PolicyMeansWrongFalsely : Prop := policyMeansRow.holds Try.pinned (OpenSpec.ofChange policyMeansWrong)

/-- 'gemellaw16.PolicyTurns': WHATEVER THE INPUT: true; the input reads as it did. -/
def policyTurnsSpec : ChangeSpec := { name := "policyTurns", fn := fun _ => fun
  | [d1, d2, d3] => { results := [.lit (.bool true)], args := [d1, d2, d3] }
  | _ => none }
def policyTurnsRow : OpenClaim := { program := "ytlcamplkgcokjaa", sum := "a670c105c30ef3821685a32e03b91cda02afdf16f1a194d74cae048472b764de", func := "gemel/gemellaw16.PolicyTurns", spec := "policyTurns", apart := false }
def PolicyTurnsSaid : Prop := policyTurnsRow.holds Try.pinned (OpenSpec.ofChange policyTurnsSpec)

/-- ITS FALSE NEIGHBOUR: 'it returns false'. Refute it at one input. -/
def policyTurnsWrong : ChangeSpec := { name := "policyTurns", fn := fun _ => fun
  | [d1, d2, d3] => { results := [.lit (.bool false)], args := [d1, d2, d3] }
  | _ => none }
def PolicyTurnsWrongFalsely : Prop := policyTurnsRow.holds Try.pinned (OpenSpec.ofChange policyTurnsWrong)

/-- 'gemellaw17.ArbiterPlays': WHATEVER THE INPUT: true; the input reads as it did. -/
def arbiterPlaysSpec : ChangeSpec := { name := "arbiterPlays", fn := fun _ => fun
  | [d1, d2] => { results := [.lit (.bool true)], args := [d1, d2] }
  | _ => none }
def arbiterPlaysRow : OpenClaim := { program := "ytlcamplkgcokjaa", sum := "a670c105c30ef3821685a32e03b91cda02afdf16f1a194d74cae048472b764de", func := "gemel/gemellaw17.ArbiterPlays", spec := "arbiterPlays", unfollowed := true, recurses := true, apart := false }
def ArbiterPlaysSaid : Prop := arbiterPlaysRow.holds Try.pinned (OpenSpec.ofChange arbiterPlaysSpec)

/-- ITS FALSE NEIGHBOUR: 'it returns false'. Refute it at one input. -/
def arbiterPlaysWrong : ChangeSpec := { name := "arbiterPlays", fn := fun _ => fun
  | [d1, d2] => { results := [.lit (.bool false)], args := [d1, d2] }
  | _ => none }
def ArbiterPlaysWrongFalsely : Prop := arbiterPlaysRow.holds Try.pinned (OpenSpec.ofChange arbiterPlaysWrong)

/-- 'gemellaw17.ArbiterMeans': WHATEVER THE INPUT: true; the input reads as it did. -/
def arbiterMeansSpec : ChangeSpec := { name := "arbiterMeans", fn := fun _ => fun
  | [d] => { results := [.lit (.bool true)], args := [d] }
  | _ => none }
def arbiterMeansRow : OpenClaim := { program := "ytlcamplkgcokjaa", sum := "a670c105c30ef3821685a32e03b91cda02afdf16f1a194d74cae048472b764de", func := "gemel/gemellaw17.ArbiterMeans", spec := "arbiterMeans", unfollowed := true, recurses := true, apart := false }
def ArbiterMeansSaid : Prop := arbiterMeansRow.holds Try.pinned (OpenSpec.ofChange arbiterMeansSpec)

/-- ITS FALSE NEIGHBOUR: 'it returns false'. Refute it at one input. -/
def arbiterMeansWrong : ChangeSpec := { name := "arbiterMeans", fn := fun _ => fun
  | [d] => { results := [.lit (.bool false)], args := [d] }
  | _ => none }
def ArbiterMeansWrongFalsely : Prop := arbiterMeansRow.holds Try.pinned (OpenSpec.ofChange arbiterMeansWrong)

/-- 'gemellaw17.ArbiterNil': WHATEVER THE INPUT: true; the input reads as it did. -/
def arbiterNilSpec : ChangeSpec := { name := "arbiterNil", fn := fun _ => fun
  | [] => { results := [.lit (.bool true)], args := [] }
  | _ => none }
def arbiterNilRow : OpenClaim := { program := "ytlcamplkgcokjaa", sum := "a670c105c30ef3821685a32e03b91cda02afdf16f1a194d74cae048472b764de", func := "gemel/gemellaw17.ArbiterNil", spec := "arbiterNil", unfollowed := true, recurses := true, apart := false }
def ArbiterNilSaid : Prop := arbiterNilRow.holds Try.pinned (OpenSpec.ofChange arbiterNilSpec)

/-- ITS FALSE NEIGHBOUR: 'it returns false'. Refute it at one input. -/
def arbiterNilWrong : ChangeSpec := { name := "arbiterNil", fn := fun _ => fun
  | [] => { results := [.lit (.bool false)], args := [] }
  | _ => none }
def ArbiterNilWrongFalsely : Prop := arbiterNilRow.holds Try.pinned (OpenSpec.ofChange arbiterNilWrong)

/-- 'gemellaw17.ArbiterHolds': WHATEVER THE INPUT: true; the input reads as it did. -/
def arbiterHoldsSpec : ChangeSpec := { name := "arbiterHolds", fn := fun _ => fun
  | [d1, d2, d3] => { results := [.lit (.bool true)], args := [d1, d2, d3] }
  | _ => none }
def arbiterHoldsRow : OpenClaim := { program := "ytlcamplkgcokjaa", sum := "a670c105c30ef3821685a32e03b91cda02afdf16f1a194d74cae048472b764de", func := "gemel/gemellaw17.ArbiterHolds", spec := "arbiterHolds", apart := false }
def ArbiterHoldsSaid : Prop := arbiterHoldsRow.holds Try.pinned (OpenSpec.ofChange arbiterHoldsSpec)

/-- ITS FALSE NEIGHBOUR: 'it returns false'. Refute it at one input. -/
def arbiterHoldsWrong : ChangeSpec := { name := "arbiterHolds", fn := fun _ => fun
  | [d1, d2, d3] => { results := [.lit (.bool false)], args := [d1, d2, d3] }
  | _ => none }
def ArbiterHoldsWrongFalsely : Prop := arbiterHoldsRow.holds Try.pinned (OpenSpec.ofChange arbiterHoldsWrong)

/- THE SECOND FORM. 'bulk': how many values and letters a reading holds, each counted each time it is reached (what is shared counts as often as it is met; a slice's spare places count too). A statement '..UptoSaid' is the law's where the arguments, and the package variables that the reading takes, are together of bulk at most 1048576: NARROWER than '..Said'. Prove '..Said' where nothing that the law and all that it calls make is longer than what came in: it says more and counts as full. Else prove '..UptoSaid'. A law counts once. -/
mutual
def uptoBulk {H : Type} : DataW H → Nat
  | .lit (.string bytes) => bytes.length + 1
  | .lit _ => 1
  | .nil => 1
  | .ptr d => uptoBulk d + 1
  | .slice elems spare => uptoBulkAll elems + uptoBulkAll spare + 1
  | .agg parts => uptoBulkAll parts + 1
  | .iface _ d => uptoBulk d + 1
  | .map entries => uptoBulkEntries entries + 1
  | .held _ => 1
def uptoBulkAll {H : Type} : List (DataW H) → Nat
  | [] => 0
  | d :: r => uptoBulk d + uptoBulkAll r
def uptoBulkEntries {H : Type} : List (Lit × DataW H) → Nat
  | [] => 0
  | x :: r => uptoBulkEntry x + uptoBulkEntries r
def uptoBulkEntry {H : Type} : Lit × DataW H → Nat
  | (.string bytes, d) => bytes.length + uptoBulk d + 1
  | (_, d) => uptoBulk d + 1
 end
def uptoSmall : (H : Type) → List (DataW H) → Bool := fun _ ds => decide (uptoBulkAll ds ≤ 1048576)
def OpenSpec.upto (s : _root_.Go.ChangeSpec) : _root_.Go.OpenSpec := { _root_.Go.OpenSpec.ofChange s with cond := some uptoSmall }

/-- 'gemellaw07.UuidMeans', WHERE WHAT IT READS IS OF BULK AT MOST 1048576: true; the input reads as it did. -/
def uuidMeansUptoRow : OpenClaim := { program := "ytlcamplkgcokjaa", sum := "a670c105c30ef3821685a32e03b91cda02afdf16f1a194d74cae048472b764de", func := "gemel/gemellaw07.UuidMeans", spec := "uuidMeans", apart := false, narrowed := true }
def UuidMeansUptoSaid : Prop := uuidMeansUptoRow.holds Try.pinned (OpenSpec.upto uuidMeansSpec)

/-- 'gemellaw07.UuidTurns', WHERE WHAT IT READS IS OF BULK AT MOST 1048576: true; the input reads as it did. -/
def uuidTurnsUptoRow : OpenClaim := { program := "ytlcamplkgcokjaa", sum := "a670c105c30ef3821685a32e03b91cda02afdf16f1a194d74cae048472b764de", func := "gemel/gemellaw07.UuidTurns", spec := "uuidTurns", apart := false, narrowed := true }
def UuidTurnsUptoSaid : Prop := uuidTurnsUptoRow.holds Try.pinned (OpenSpec.upto uuidTurnsSpec)

/-- 'gemellaw07.UuidMoves', WHERE WHAT IT READS IS OF BULK AT MOST 1048576: true; the input reads as it did. -/
def uuidMovesUptoRow : OpenClaim := { program := "ytlcamplkgcokjaa", sum := "a670c105c30ef3821685a32e03b91cda02afdf16f1a194d74cae048472b764de", func := "gemel/gemellaw07.UuidMoves", spec := "uuidMoves", apart := false, narrowed := true }
def UuidMovesUptoSaid : Prop := uuidMovesUptoRow.holds Try.pinned (OpenSpec.upto uuidMovesSpec)

/-- 'gemellaw07.UuidTree', WHERE WHAT IT READS IS OF BULK AT MOST 1048576: true; the input reads as it did. -/
def uuidTreeUptoRow : OpenClaim := { program := "ytlcamplkgcokjaa", sum := "a670c105c30ef3821685a32e03b91cda02afdf16f1a194d74cae048472b764de", func := "gemel/gemellaw07.UuidTree", spec := "uuidTree", apart := false, narrowed := true }
def UuidTreeUptoSaid : Prop := uuidTreeUptoRow.holds Try.pinned (OpenSpec.upto uuidTreeSpec)

/-- 'gemellaw16.PolicyMeans', WHERE WHAT IT READS IS OF BULK AT MOST 1048576: true; the input reads as it did. -/
def policyMeansUptoRow : OpenClaim := { program := "ytlcamplkgcokjaa", sum := "a670c105c30ef3821685a32e03b91cda02afdf16f1a194d74cae048472b764de", func := "gemel/gemellaw16.PolicyMeans", spec := "policyMeans", apart := false, narrowed := true }
def PolicyMeansUptoSaid : Prop := policyMeansUptoRow.holds Try.pinned (OpenSpec.upto policyMeansSpec)

/-- 'gemellaw16.PolicyTurns', WHERE WHAT IT READS IS OF BULK AT MOST 1048576: true; the input reads as it did. -/
def policyTurnsUptoRow : OpenClaim := { program := "ytlcamplkgcokjaa", sum := "a670c105c30ef3821685a32e03b91cda02afdf16f1a194d74cae048472b764de", func := "gemel/gemellaw16.PolicyTurns", spec := "policyTurns", apart := false, narrowed := true }
def PolicyTurnsUptoSaid : Prop := policyTurnsUptoRow.holds Try.pinned (OpenSpec.upto policyTurnsSpec)

/-- 'gemellaw17.ArbiterPlays', WHERE WHAT IT READS IS OF BULK AT MOST 1048576: true; the input reads as it did. -/
def arbiterPlaysUptoRow : OpenClaim := { program := "ytlcamplkgcokjaa", sum := "a670c105c30ef3821685a32e03b91cda02afdf16f1a194d74cae048472b764de", func := "gemel/gemellaw17.ArbiterPlays", spec := "arbiterPlays", unfollowed := true, recurses := true, apart := false, narrowed := true }
def ArbiterPlaysUptoSaid : Prop := arbiterPlaysUptoRow.holds Try.pinned (OpenSpec.upto arbiterPlaysSpec)

/-- 'gemellaw17.ArbiterMeans', WHERE WHAT IT READS IS OF BULK AT MOST 1048576: true; the input reads as it did. -/
def arbiterMeansUptoRow : OpenClaim := { program := "ytlcamplkgcokjaa", sum := "a670c105c30ef3821685a32e03b91cda02afdf16f1a194d74cae048472b764de", func := "gemel/gemellaw17.ArbiterMeans", spec := "arbiterMeans", unfollowed := true, recurses := true, apart := false, narrowed := true }
def ArbiterMeansUptoSaid : Prop := arbiterMeansUptoRow.holds Try.pinned (OpenSpec.upto arbiterMeansSpec)

/-- 'gemellaw17.ArbiterNil', WHERE WHAT IT READS IS OF BULK AT MOST 1048576: true; the input reads as it did. -/
def arbiterNilUptoRow : OpenClaim := { program := "ytlcamplkgcokjaa", sum := "a670c105c30ef3821685a32e03b91cda02afdf16f1a194d74cae048472b764de", func := "gemel/gemellaw17.ArbiterNil", spec := "arbiterNil", unfollowed := true, recurses := true, apart := false, narrowed := true }
def ArbiterNilUptoSaid : Prop := arbiterNilUptoRow.holds Try.pinned (OpenSpec.upto arbiterNilSpec)

/-- 'gemellaw17.ArbiterHolds', WHERE WHAT IT READS IS OF BULK AT MOST 1048576: true; the input reads as it did. -/
def arbiterHoldsUptoRow : OpenClaim := { program := "ytlcamplkgcokjaa", sum := "a670c105c30ef3821685a32e03b91cda02afdf16f1a194d74cae048472b764de", func := "gemel/gemellaw17.ArbiterHolds", spec := "arbiterHolds", apart := false, narrowed := true }
def ArbiterHoldsUptoSaid : Prop := arbiterHoldsUptoRow.holds Try.pinned (OpenSpec.upto arbiterHoldsSpec)

end Rows
end Go.Proofs.Ytlcamplkgcokjaa
