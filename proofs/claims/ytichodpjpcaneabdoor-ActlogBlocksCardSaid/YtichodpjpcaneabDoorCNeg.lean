import Derived.Test.YtichodpjpcaneabDoorShaP
namespace Go.Proofs.YtichodpjpcaneabDoor.Closed
open Go Go.Sy Go.Sy.Sha Go.RowKit
set_option maxRecDepth 1000000 in
theorem neg : Q fneg := Symb.run (n := 10000) (by kernel_rfl) is_fn
end Go.Proofs.YtichodpjpcaneabDoor.Closed
