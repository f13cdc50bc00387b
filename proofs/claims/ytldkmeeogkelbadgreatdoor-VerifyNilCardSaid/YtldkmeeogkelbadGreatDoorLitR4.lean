import Derived.Test.YtldkmeeogkelbadGreatDoorLitD
/-! A call. -/
namespace Go.Proofs.YtldkmeeogkelbadGreatDoor.Closed
open Go Go.Sy Go.Sy.Sha Go.RowKit
set_option maxRecDepth 1000000 in
theorem run_l166_4 : (runX Tryz.prog conT gl 10000 (.call 166 l166_4.args) (litSK l166_4) .nil .nil l166_4.pre).triv = true := by kernel_rfl
set_option maxRecDepth 1000000 in
theorem run_l166_5 : (runX Tryz.prog conT gl 10000 (.call 166 l166_5.args) (litSK l166_5) .nil .nil l166_5.pre).triv = true := by kernel_rfl
end Go.Proofs.YtldkmeeogkelbadGreatDoor.Closed
