import Derived.Test.YtldkmeeogkelbaaDoorLitD
/-! A call. -/
namespace Go.Proofs.YtldkmeeogkelbaaDoor.Closed
open Go Go.Sy Go.Sy.Sha Go.RowKit
set_option maxRecDepth 1000000 in
theorem run_l27_24 : (runX Tryd.prog conT gl 10000 (.call 27 l27_24.args) (litSK l27_24) .nil .nil l27_24.pre).triv = true := by kernel_rfl
end Go.Proofs.YtldkmeeogkelbaaDoor.Closed
