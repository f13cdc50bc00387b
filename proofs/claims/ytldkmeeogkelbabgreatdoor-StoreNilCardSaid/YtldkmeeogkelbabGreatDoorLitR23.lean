import Derived.Test.YtldkmeeogkelbabGreatDoorLitD
/-! A call. -/
namespace Go.Proofs.YtldkmeeogkelbabGreatDoor.Closed
open Go Go.Sy Go.Sy.Sha Go.RowKit
set_option maxRecDepth 1000000 in
theorem run_l41_2 : (runX Tryz.prog conT gl 10000 (.call 41 l41_2.args) (litSK l41_2) .nil .nil l41_2.pre).triv = true := by kernel_rfl
end Go.Proofs.YtldkmeeogkelbabGreatDoor.Closed
