import Derived.Test.YtldkmeeogkelbacGreatDoorLitD
/-! A call. -/
namespace Go.Proofs.YtldkmeeogkelbacGreatDoor.Closed
open Go Go.Sy Go.Sy.Sha Go.RowKit
set_option maxRecDepth 1000000 in
theorem run_l87_0 : (runX Tryz.prog conT gl 10000 (.call 87 l87_0.args) (litSK l87_0) .nil .nil l87_0.pre).triv = true := by kernel_rfl
end Go.Proofs.YtldkmeeogkelbacGreatDoor.Closed
