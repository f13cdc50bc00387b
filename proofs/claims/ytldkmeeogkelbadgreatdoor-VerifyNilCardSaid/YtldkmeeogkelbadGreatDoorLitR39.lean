import Derived.Test.YtldkmeeogkelbadGreatDoorLitD
/-! A call. -/
namespace Go.Proofs.YtldkmeeogkelbadGreatDoor.Closed
open Go Go.Sy Go.Sy.Sha Go.RowKit
set_option maxRecDepth 1000000 in
theorem run_l63_0 : (runX Tryz.prog conT gl 10000 (.call 63 l63_0.args) (litSK l63_0) .nil .nil l63_0.pre).triv = true := by kernel_rfl
end Go.Proofs.YtldkmeeogkelbadGreatDoor.Closed
