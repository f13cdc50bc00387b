import Derived.Test.YtldkmeeogkelbadGreatDoorLitD
/-! A call. -/
namespace Go.Proofs.YtldkmeeogkelbadGreatDoor.Closed
open Go Go.Sy Go.Sy.Sha Go.RowKit
set_option maxRecDepth 1000000 in
theorem run_l57_0 : (runX Tryz.prog conT gl 10000 (.call 57 l57_0.args) (litSK l57_0) .nil .nil l57_0.pre).triv = true := by kernel_rfl
end Go.Proofs.YtldkmeeogkelbadGreatDoor.Closed
