import Derived.Test.YtlcamplkgcokjaaUuMvD
namespace Go.Proofs.Ytlcamplkgcokjaa.UuMv
open Go.Sx
theorem g1 : check (cxK Try.prog 22 .nil .nil) 1000 5 argsP (.cut 1 1 .leaf .leaf) ivP .nil = true := by rw [← checkP_eq]; kernel_rfl
end Go.Proofs.Ytlcamplkgcokjaa.UuMv
