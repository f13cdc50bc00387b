import Derived.Test.YtldkmeeogkelbadGreatDoorLitD
/-! A call. -/
namespace Go.Proofs.YtldkmeeogkelbadGreatDoor.Closed
open Go Go.Sy Go.Sy.Sha Go.RowKit
set_option maxRecDepth 1000000 in
theorem run_l166_1 : (runX Tryz.prog conT gl 10000 (.call 166 l166_1.args) (litSK l166_1) .nil .nil l166_1.pre).triv = true := by kernel_rfl
set_option maxRecDepth 1000000 in
theorem run_l166_2 : (runX Tryz.prog conT gl 10000 (.call 166 l166_2.args) (litSK l166_2) .nil .nil l166_2.pre).triv = true := by kernel_rfl
end Go.Proofs.YtldkmeeogkelbadGreatDoor.Closed
