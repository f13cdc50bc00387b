import Derived.Test.YtldkmeeogkelbacGreatDoorLitD
/-! A call. -/
namespace Go.Proofs.YtldkmeeogkelbacGreatDoor.Closed
open Go Go.Sy Go.Sy.Sha Go.RowKit
set_option maxRecDepth 1000000 in
theorem run_l23_10 : (runX Tryz.prog conT gl 10000 (.call 23 l23_10.args) (litSK l23_10) .nil .nil l23_10.pre).triv = true := by kernel_rfl
end Go.Proofs.YtldkmeeogkelbacGreatDoor.Closed
