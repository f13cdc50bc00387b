import Derived.Test.YtldkmeeogkelbadGreatDoorLitD
/-! A call. -/
namespace Go.Proofs.YtldkmeeogkelbadGreatDoor.Closed
open Go Go.Sy Go.Sy.Sha Go.RowKit
set_option maxRecDepth 1000000 in
theorem run_l58_0 : (runX Tryz.prog conT gl 10000 (.call 58 l58_0.args) (litSK l58_0) .nil .nil l58_0.pre).triv = true := by kernel_rfl
end Go.Proofs.YtldkmeeogkelbadGreatDoor.Closed
