import Derived.Test.YtfkaabhmcdiihaaLitD
/-! A call. -/
namespace Go.Proofs.Ytfkaabhmcdiihaa.Closed
open Go Go.Sy Go.RowKit
set_option maxRecDepth 1000000 in
theorem run_l7_0 : (runX Try.prog .nil .nil 4000 (.call 7 l7_0.args) (litSK l7_0) .nil .nil l7_0.pre).triv = true := by kernel_rfl
end Go.Proofs.Ytfkaabhmcdiihaa.Closed
