import Derived.Test.YtldkmeeogkelbacGreatDoorLitD
/-! A call. -/
namespace Go.Proofs.YtldkmeeogkelbacGreatDoor.Closed
open Go Go.Sy Go.Sy.Sha Go.RowKit
set_option maxRecDepth 1000000 in
theorem run_l82_0 : (runX Tryz.prog conT gl 10000 (.call 82 l82_0.args) (litSK l82_0) .nil .nil l82_0.pre).triv = true := by kernel_rfl
end Go.Proofs.YtldkmeeogkelbacGreatDoor.Closed
