import Derived.Test.YtldkmeeogkelbabGreatDoorLitD
/-! A call. -/
namespace Go.Proofs.YtldkmeeogkelbabGreatDoor.Closed
open Go Go.Sy Go.Sy.Sha Go.RowKit
set_option maxRecDepth 1000000 in
theorem run_l89_4 : (runX Tryz.prog conT gl 10000 (.call 89 l89_4.args) (litSK l89_4) .nil .nil l89_4.pre).triv = true := by kernel_rfl
end Go.Proofs.YtldkmeeogkelbabGreatDoor.Closed
