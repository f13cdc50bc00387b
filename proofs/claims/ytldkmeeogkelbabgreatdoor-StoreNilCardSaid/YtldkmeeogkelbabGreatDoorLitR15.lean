import Derived.Test.YtldkmeeogkelbabGreatDoorLitD
/-! A call. -/
namespace Go.Proofs.YtldkmeeogkelbabGreatDoor.Closed
open Go Go.Sy Go.Sy.Sha Go.RowKit
set_option maxRecDepth 1000000 in
theorem run_l38_0 : (runX Tryz.prog conT gl 10000 (.call 38 l38_0.args) (litSK l38_0) .nil .nil l38_0.pre).triv = true := by kernel_rfl
end Go.Proofs.YtldkmeeogkelbabGreatDoor.Closed
