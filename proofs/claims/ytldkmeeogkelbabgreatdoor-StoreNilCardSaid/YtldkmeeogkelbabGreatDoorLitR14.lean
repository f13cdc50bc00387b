import Derived.Test.YtldkmeeogkelbabGreatDoorLitD
/-! A call. -/
namespace Go.Proofs.YtldkmeeogkelbabGreatDoor.Closed
open Go Go.Sy Go.Sy.Sha Go.RowKit
set_option maxRecDepth 1000000 in
theorem run_l46_1 : (runX Tryz.prog conT gl 10000 (.call 46 l46_1.args) (litSK l46_1) .nil .nil l46_1.pre).triv = true := by kernel_rfl
end Go.Proofs.YtldkmeeogkelbabGreatDoor.Closed
