import Derived.Test.YtldkmeeogkelbadGreatDoorLitD
/-! A call. -/
namespace Go.Proofs.YtldkmeeogkelbadGreatDoor.Closed
open Go Go.Sy Go.Sy.Sha Go.RowKit
set_option maxRecDepth 1000000 in
theorem run_l166_9 : (runX Tryz.prog conT gl 10000 (.call 166 l166_9.args) (litSK l166_9) .nil .nil l166_9.pre).triv = true := by kernel_rfl
set_option maxRecDepth 1000000 in
theorem run_l166_10 : (runX Tryz.prog conT gl 10000 (.call 166 l166_10.args) (litSK l166_10) .nil .nil l166_10.pre).triv = true := by kernel_rfl
end Go.Proofs.YtldkmeeogkelbadGreatDoor.Closed
