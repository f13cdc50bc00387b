import Derived.Test.YtabhdlkefojbfabLitM
/-! A call. -/
namespace Go.Proofs.Ytabhdlkefojbfab.Closed
open Go Go.Sy Go.RowKit
set_option maxRecDepth 1000000 in
theorem run_l7_0 : (runX Try.prog conT2 .nil 4000 (.call 7 l7_0.args) (litSK l7_0) .nil .nil l7_0.pre).triv = true := by kernel_rfl
end Go.Proofs.Ytabhdlkefojbfab.Closed
