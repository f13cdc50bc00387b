import Derived.Test.YtfkaabhmcdiihaaLitD
/-! A call. -/
namespace Go.Proofs.Ytfkaabhmcdiihaa.Closed
open Go Go.Sy Go.RowKit
set_option maxRecDepth 1000000 in
theorem run_l21_2 : (runX Try.prog .nil .nil 4000 (.call 21 l21_2.args) (litSK l21_2) .nil .nil l21_2.pre).triv = true := by kernel_rfl
end Go.Proofs.Ytfkaabhmcdiihaa.Closed
