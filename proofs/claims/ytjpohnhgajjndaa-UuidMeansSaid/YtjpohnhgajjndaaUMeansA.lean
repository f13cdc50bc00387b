/-
  UuidMeans: where it starts.
-/
import Derived.Test.YtjpohnhgajjndaaSyV
import Derived.Test.YtjpohnhgajjndaaChecked
import Derived.KernelRfl
namespace Go.Proofs.Ytjpohnhgajjndaa.UMeans
open Go.Sy
theorem mixed : Try.prog.follows .mixedOrders = true := by kernel_rfl
theorem is_fn : hasFn Try.prog 3 = true := by kernel_rfl
def shs : List Sh := [.agg [.i .u64, .i .u64, .i .u64, .i .u64], .agg [.i .u64, .i .u64, .i .u64, .i .u64]]
def args0 : List AV := [.agg [.sym .u64 (.zv 0), .sym .u64 (.zv 1), .sym .u64 (.zv 2), .sym .u64 (.zv 3)], .agg [.sym .u64 (.zv 4), .sym .u64 (.zv 5), .sym .u64 (.zv 6), .sym .u64 (.zv 7)]]
end Go.Proofs.Ytjpohnhgajjndaa.UMeans
