import Derived.Test.YtfkaabhmcdiihaaLitD
/-! A call. -/
namespace Go.Proofs.Ytfkaabhmcdiihaa.Closed
open Go Go.Sy Go.RowKit
set_option maxRecDepth 1000000 in
theorem run_l7_2 : (runX Try.prog .nil .nil 4000 (.call 7 l7_2.args) (litSK l7_2) .nil .nil l7_2.pre).triv = true := by kernel_rfl
end Go.Proofs.Ytfkaabhmcdiihaa.Closed
