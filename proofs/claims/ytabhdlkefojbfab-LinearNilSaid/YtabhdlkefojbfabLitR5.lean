import Derived.Test.YtabhdlkefojbfabLitD
/-! A call. -/
namespace Go.Proofs.Ytabhdlkefojbfab.Closed
open Go Go.Sy Go.RowKit
set_option maxRecDepth 1000000 in
theorem run_l6_3 : (runX Try.prog .nil .nil 4000 (.call 6 l6_3.args) (litSK l6_3) .nil .nil l6_3.pre).triv = true := by kernel_rfl
end Go.Proofs.Ytabhdlkefojbfab.Closed
