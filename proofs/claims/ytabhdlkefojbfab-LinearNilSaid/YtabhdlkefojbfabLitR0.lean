import Derived.Test.YtabhdlkefojbfabLitD
/-! A call. -/
namespace Go.Proofs.Ytabhdlkefojbfab.Closed
open Go Go.Sy Go.RowKit
set_option maxRecDepth 1000000 in
theorem run_l4_0 : (runX Try.prog .nil .nil 4000 (.call 4 l4_0.args) (litSK l4_0) .nil .nil l4_0.pre).triv = true := by kernel_rfl
end Go.Proofs.Ytabhdlkefojbfab.Closed
