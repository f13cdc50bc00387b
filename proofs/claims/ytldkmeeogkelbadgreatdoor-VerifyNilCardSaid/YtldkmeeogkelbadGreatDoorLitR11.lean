import Derived.Test.YtldkmeeogkelbadGreatDoorLitD
/-! A call. -/
namespace Go.Proofs.YtldkmeeogkelbadGreatDoor.Closed
open Go Go.Sy Go.Sy.Sha Go.RowKit
set_option maxRecDepth 1000000 in
theorem run_l166_11 : (runX Tryz.prog conT gl 10000 (.call 166 l166_11.args) (litSK l166_11) .nil .nil l166_11.pre).triv = true := by kernel_rfl
end Go.Proofs.YtldkmeeogkelbadGreatDoor.Closed
