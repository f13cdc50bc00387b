import Derived.Test.YtldkmeeogkelbacGreatDoorLitD
/-! A call. -/
namespace Go.Proofs.YtldkmeeogkelbacGreatDoor.Closed
open Go Go.Sy Go.Sy.Sha Go.RowKit
set_option maxRecDepth 1000000 in
theorem run_l23_7 : (runX Tryz.prog conT gl 10000 (.call 23 l23_7.args) (litSK l23_7) .nil .nil l23_7.pre).triv = true := by kernel_rfl
end Go.Proofs.YtldkmeeogkelbacGreatDoor.Closed
