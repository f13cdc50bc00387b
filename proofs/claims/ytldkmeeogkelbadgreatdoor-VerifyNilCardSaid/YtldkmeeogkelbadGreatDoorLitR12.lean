import Derived.Test.YtldkmeeogkelbadGreatDoorLitD
/-! A call. -/
namespace Go.Proofs.YtldkmeeogkelbadGreatDoor.Closed
open Go Go.Sy Go.Sy.Sha Go.RowKit
set_option maxRecDepth 1000000 in
theorem run_l166_12 : (runX Tryz.prog conT gl 10000 (.call 166 l166_12.args) (litSK l166_12) .nil .nil l166_12.pre).triv = true := by kernel_rfl
set_option maxRecDepth 1000000 in
theorem run_l166_13 : (runX Tryz.prog conT gl 10000 (.call 166 l166_13.args) (litSK l166_13) .nil .nil l166_13.pre).triv = true := by kernel_rfl
end Go.Proofs.YtldkmeeogkelbadGreatDoor.Closed
