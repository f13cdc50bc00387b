import Derived.Test.YtldkmeeogkelbacGreatDoorLitD
/-! A call. -/
namespace Go.Proofs.YtldkmeeogkelbacGreatDoor.Closed
open Go Go.Sy Go.Sy.Sha Go.RowKit
set_option maxRecDepth 1000000 in
theorem run_l15_1 : (runX Tryz.prog conT gl 10000 (.call 15 l15_1.args) (litSK l15_1) .nil .nil l15_1.pre).triv = true := by kernel_rfl
end Go.Proofs.YtldkmeeogkelbacGreatDoor.Closed
